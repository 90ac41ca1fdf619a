/- Several texts in one. -/
import Derived.Test.YtnpjgoklpaigjaaGreatDoorGAB
import Derived.Test.YtnpjgoklpaigjaaGreatDoorGAO
import Derived.Test.YtnpjgoklpaigjaaGreatDoorGAN
import Derived.Test.YtnpjgoklpaigjaaGreatDoorRX
import Derived.Test.YtnpjgoklpaigjaaGreatDoorGAH
import Derived.Test.YtnpjgoklpaigjaaGreatDoorGAI
import Derived.Handy
namespace Go.Proofs.YtnpjgoklpaigjaaGreatDoor
open Go.RowKit
set_option linter.unusedVariables false
set_option linter.unusedSimpArgs false
theorem ni_set {w : World} {lo β : Nat} {a : Option Addr} {xs : List Int} {cs : Array Value} {t : TypeId} (h : Ni w lo a xs) (hB : Bz w β cs t) (ht : t ≠ 2) (i : Nat) (v : Value) : Ni (w.setCell ⟨β, i, none⟩ v) lo a xs :=
 Ni.kept h fun k cur hc => heap_setCell_other _ _ _ _ (fun e => by
  simp only [] at e
  subst e
  unfold Bz at hB
  rw [hB] at hc
  cases hc
  exact ht rfl)
theorem bz_gr {w w' : World} {b B : Nat} {cs : Array Value} {t : TypeId} {v : Value} (h : Bz w b cs t) (hb : b < B) (hv : ∀ k, v.ownBlock = some k → B ≤ k) (hg : w.grownBy w' v.ownBlock) : Bz w' b cs t := by
 unfold Bz
 rw [hg.block b h.lt (fun e => by have := hv b e.symm; omega)]
 exact h
theorem ni_gr {w w' : World} {lo B : Nat} {a : Option Addr} {xs : List Int} {v : Value} (h : Ni w lo a xs) (hw : ∃ ys, OwW w B v ys) (hg : w.grownBy w' v.ownBlock) : Ni w' lo a xs :=
 Ni.kept h fun k cur hc => hg.block k (lt_of_block hc) (fun e => by
  obtain ⟨ys, ho⟩ := hw
  rcases ho.2 with ⟨rfl, -⟩ | ⟨g, cap, cur', rfl, -, hh, -⟩
  ·cases e
  ·cases e
   rw [hc] at hh
   cases hh)
def RetCp (op vr aa bb bw : Int) (ws : List Nat) (ks : List Int) (nw nk : Nat) (w : World) (e : Ending) (w' : World) : Prop := ∃ a1 c1 a2 c2, e = .returned (.agg #[.int .i64 op, .int .i64 vr, .int .i64 aa, .int .i64 bb, .int .i64 bw, .slice a1 nw c1, .slice a2 nk c2]) ∧ Nw w' w.heap.size a1 ws ∧ Ni w' w.heap.size a2 ks ∧ Below w.heap.size w w'
def RetCq (op vr aa bb bw : Int) (ws : List Nat) (ks : List Int) (nw nk : Nat) (w : World) (e : Ending) (w' : World) : Prop := ∃ a1 c1 a2 c2, e = .returned (.agg #[.int .i64 op, .int .i64 vr, .int .i64 aa, .int .i64 bb, .int .i64 bw, .slice a1 nw c1, .slice a2 nk c2]) ∧ Nw w' w.heap.size a1 ws ∧ Ni w' w.heap.size a2 ks ∧ ((a1 = none → c1 = 0) ∧ (a2 = none → c2 = 0)) ∧ Below w.heap.size w w'
theorem cap0 {w : World} {B n c m k : Nat} {a : Option Addr} {t : TypeId} {xs : List Value} (h : w.ownsRow B t k (.slice a n c) m xs) : a = none → c = 0 := fun ha => by
 subst ha
 rcases h.2 with ⟨e, -⟩ | ⟨g, cap, cur, e, -⟩
 ·simp only [Value.slice.injEq] at e
  exact e.2.2
 ·simp only [Value.slice.injEq] at e
  exact absurd e.1 (by simp)
set_option maxHeartbeats 4000000 in
set_option maxRecDepth 100000 in
theorem l3CopyNodeQ_any (x : Tc) (wa ka : Option Addr) (wc kc : Nat) (w : World) (hx : Rd w wa x.ws) (hk : RdI w ka x.ks) (hw0 : wa = none → wc = 0) (hk0 : ka = none → kc = 0) :
  Calls Tryz.prog 55 #[.agg #[.int .i64 x.op, .int .i64 x.vr, .int .i64 x.a, .int .i64 x.b, .int .i64 x.bw, .slice wa x.ws.length wc, .slice ka x.ks.length kc]] w (RetCq x.op x.vr x.a x.b x.bw x.ws x.ks x.ws.length x.ks.length w) := by
 obtain ⟨op, vr, aa, bb, bw, ws, ks⟩ := x
 simp only [] at hx hk ⊢
 obtain ⟨nw, hnw⟩ : ∃ n, ws.length = n := ⟨_, rfl⟩
 obtain ⟨nk, hnk⟩ : ∃ n, ks.length = n := ⟨_, rfl⟩
 simp only [hnw, hnk]
 have HNW := kide hnw
 have HNK := kide hnk
 have hlw := hx.1
 have hlk := hk.1
 rw [hnw] at hlw
 rw [hnk] at hlk
 have hb2 : Below w.heap.size w ((w.alloc (Obj.cells #[.int .i64 op, .int .i64 vr, .int .i64 aa, .int .i64 bb, .int .i64 bw, .slice wa nw wc, .slice ka nk kc] 67)).alloc (Obj.cells #[.int .i64 0, .int .i64 0, .int .i64 0, .int .i64 0, .int .i64 0, .slice none 0 0, .slice none 0 0] 67)) := (blA _ _).alloc (by simp) _
 have XP0 := kide (Bz.later (Bz.new w #[.int .i64 op, .int .i64 vr, .int .i64 aa, .int .i64 bb, .int .i64 bw, .slice wa nw wc, .slice ka nk kc] 67) ((Below.refl _ _).alloc (Nat.le_refl _) (Obj.cells #[.int .i64 0, .int .i64 0, .int .i64 0, .int .i64 0, .int .i64 0, .slice none 0 0, .slice none 0 0] 67)))
 have XR0 : Hid (Bz ((w.alloc (Obj.cells #[.int .i64 op, .int .i64 vr, .int .i64 aa, .int .i64 bb, .int .i64 bw, .slice wa nw wc, .slice ka nk kc] 67)).alloc (Obj.cells #[.int .i64 0, .int .i64 0, .int .i64 0, .int .i64 0, .int .i64 0, .slice none 0 0, .slice none 0 0] 67)) (w.heap.size + 1) #[.int .i64 0, .int .i64 0, .int .i64 0, .int .i64 0, .int .i64 0, .slice none 0 0, .slice none 0 0] 67) := by
  have h9 := Bz.new (w.alloc (Obj.cells #[.int .i64 op, .int .i64 vr, .int .i64 aa, .int .i64 bb, .int .i64 bw, .slice wa nw wc, .slice ka nk kc] 67)) #[.int .i64 0, .int .i64 0, .int .i64 0, .int .i64 0, .int .i64 0, .slice none 0 0, .slice none 0 0] 67
  rw [show (w.alloc (Obj.cells #[.int .i64 op, .int .i64 vr, .int .i64 aa, .int .i64 bb, .int .i64 bw, .slice wa nw wc, .slice ka nk kc] 67)).heap.size = w.heap.size + 1 by simp] at h9
  exact h9
 have hsz : ((w.alloc (Obj.cells #[.int .i64 op, .int .i64 vr, .int .i64 aa, .int .i64 bb, .int .i64 bw, .slice wa nw wc, .slice ka nk kc] 67)).alloc (Obj.cells #[.int .i64 0, .int .i64 0, .int .i64 0, .int .i64 0, .int .i64 0, .slice none 0 0, .slice none 0 0] 67)).heap.size = w.heap.size + 1 + 1 := by simp
 obtain ⟨W0, hW0⟩ : ∃ W0, (w.alloc (Obj.cells #[.int .i64 op, .int .i64 vr, .int .i64 aa, .int .i64 bb, .int .i64 bw, .slice wa nw wc, .slice ka nk kc] 67)).alloc (Obj.cells #[.int .i64 0, .int .i64 0, .int .i64 0, .int .i64 0, .int .i64 0, .slice none 0 0, .slice none 0 0] 67) = W0 := ⟨_, rfl⟩
 rw [hW0] at hb2 XP0 XR0 hsz
 have HW0 := kide hW0
 have hb3 : Below W0.heap.size W0 (W0.alloc (Obj.cells #[] 2)) := blA _ _
 have OE := kide (OI.empty W0 (w.heap.size + 2) (by omega))
 have XP1 := kide (XP0.out.later hb3)
 have XR1 := kide (XR0.out.later hb3)
 have B1 := kide (hb2.trans (hb3.mono hb2.size))
 have HX := kide (fun u (hu : Below w.heap.size w u) => hx.later hu)
 have HK := kide (fun u (hu : Below w.heap.size w u) => hk.later hu)
 have HSZ := kide hsz
 have HW1 : Hid (w.heap.size + 2 ≤ (W0.alloc (Obj.cells #[] 2)).heap.size) := by show _ ≤ _; simp; omega
 clear hb2 hb3 XP0 XR0 hx hk hnw hnk
 go_enter Tryz.func55, Tryz.ntmps55
 have y6 := XP1.out.cell 6
 simp at y6
 clear hW0 hsz
 go_wp2_with (at_builtin; rw [HW0.out]; refine wpList_appIr _ rfl _ _ rfl (w.heap.size + 2) (.slice (some ⟨W0.heap.size, 0, none⟩) 0 0) [] ks (by first | rfl | (simp [Act.eval, ← HW0.out])) OE.out ka kc (by rw [HNK.out]; first | rfl | simp [Act.eval]) hk0 (HK.out _ B1.out) (by rw [HNK.out]; simp; omega) HW1.out ?_)
 intro v2 w2 ho2 hg2
 try rw [List.nil_append] at ho2
 have XP2 := kide (bz_gr XP1.out (show w.heap.size < w.heap.size + 2 by omega) (fun k hk => (OE.out.lt hk).1) hg2)
 have XR2 := kide (bz_gr XR1.out (show w.heap.size + 1 < w.heap.size + 2 by omega) (fun k hk => (OE.out.lt hk).1) hg2)
 have B2 := kide (Below.grown B1.out hg2 B1.out.size (fun j hj => by have := (OE.out.lt hj).1; omega))
 have HS2 : Hid (w.heap.size + 2 ≤ w2.heap.size) := Nat.le_trans HW1.out hg2.size
 obtain ⟨a5, c5, rfl, hni⟩ := ho2.ni
 have HC5 := kide (cap0 ho2)
 rw [HNK.out]
 have NI2 := kide hni
 have e6 := XP2.out.cell 6
 have f6 := XP2.out.froz 6
 simp at e6
 clear ho2 hg2 hni OE XP1 XR1 B1 HW1 y6 HSZ HW0
 have XP3 : Hid (Bz (w2.setCell ⟨w.heap.size, 6, none⟩ (Value.slice a5 nk c5)) w.heap.size #[.int .i64 op, .int .i64 vr, .int .i64 aa, .int .i64 bb, .int .i64 bw, .slice wa nw wc, .slice a5 nk c5] 67) := XP2.out.set 6 _
 have XR3 : Hid (Bz (w2.setCell ⟨w.heap.size, 6, none⟩ (Value.slice a5 nk c5)) (w.heap.size + 1) #[.int .i64 0, .int .i64 0, .int .i64 0, .int .i64 0, .int .i64 0, .slice none 0 0, .slice none 0 0] 67) := XR2.out.other (by omega) 6 _
 have NI3 := kide (ni_set NI2.out XP2.out (by decide) 6 (Value.slice a5 nk c5))
 have B3 : Hid (Below w.heap.size w (w2.setCell ⟨w.heap.size, 6, none⟩ (Value.slice a5 nk c5))) := B2.out.setCell (Nat.le_refl _) _
 have HS3 : Hid (w.heap.size + 2 ≤ (w2.setCell ⟨w.heap.size, 6, none⟩ (Value.slice a5 nk c5)).heap.size) := by show _ ≤ _; simpa using HS2.out
 clear XP2 XR2 NI2 B2 HS2
 go_wp2_with fail
 generalize w2.setCell ⟨w.heap.size, 6, none⟩ (Value.slice a5 nk c5) = W1 at *
 clear e6 f6
 obtain ⟨b0, hb0⟩ : ∃ b0, w.heap.size = b0 := ⟨_, rfl⟩
 rw [hb0] at XP3 XR3 NI3 HS3
 simp only [hb0]
 have HB0 := kide hb0
 clear hb0
 refine wp_region_x (SA := fun uu => uu.cell? ⟨b0, 4, none⟩ = some (Value.int .i64 bw) ∧ uu.cell? ⟨b0, 5, none⟩ = some (Value.slice wa nw wc)) (SB := fun _ => True) (k := 10) (by kernel_rfl) ?_
 have hbd : Below W1.heap.size W1 W1.drew := (Below.refl _ _).drew
 have XP_0 := kide (XP3.out.later hbd)
 have XR_0 := kide (XR3.out.later hbd)
 have NI_0 := kide (NI3.out.later hbd)
 have B_0 := kide (B3.out.trans (hbd.mono B3.out.size))
 have HS_0 : Hid (b0 + 2 ≤ W1.drew.heap.size) := Nat.le_trans HS3.out hbd.size
 clear hbd XP3 XR3 NI3 B3 HS3
 generalize W1.drew = u0 at *
 have c0_0 : u0.cell? ⟨b0, 4, none⟩ = some (Value.int .i64 bw) := XP_0.out.cell 4
 have c1_0 : u0.cell? ⟨b0, 5, none⟩ = some (Value.slice wa nw wc) := XP_0.out.cell 5
 have hs0 : Hid ((fun uu => uu.cell? ⟨b0, 4, none⟩ = some (Value.int .i64 bw) ∧ uu.cell? ⟨b0, 5, none⟩ = some (Value.slice wa nw wc)) u0) := ⟨c0_0, c1_0⟩
 try go_simp
 refine tkU (i := 0) (v := Value.pointer (some ⟨b0, 4, none⟩)) rfl (Sx.before (by kernel_rfl) hs0.out) ?_
 try go_simp
 refine tkU (i := 1) (v := Value.pointer (some ⟨b0, 4, none⟩)) rfl (Sx.before (by kernel_rfl) hs0.out) ?_
 try go_simp
 refine tkY (i := 2) (v := Value.int .i64 bw) rfl hs0.out (fun uu hu => by obtain ⟨e0, e1⟩ := hu; go_simp) ?_
 try go_simp
 refine tkU (i := 4) (v := Value.pointer (some ⟨b0, 4, none⟩)) rfl (Sx.before (by kernel_rfl) hs0.out) ?_
 try go_simp
 refine tkU (i := 5) (v := Value.pointer (some ⟨b0, 5, none⟩)) rfl (Sx.before (by kernel_rfl) hs0.out) ?_
 try go_simp
 refine tkY (i := 6) (v := Value.slice wa nw wc) rfl hs0.out (fun uu hu => by obtain ⟨e0, e1⟩ := hu; go_simp) ?_
 try go_simp
 refine rdX (rs := [3]) (AllX.cons rfl (fun K hK => ?_) AllX.nil)
 go_simp
 have hbx : Below u0.heap.size u0 (u0.alloc (Obj.cells #[] 118)) := blA _ _
 have OE_1 : Hid (OwW (u0.alloc (Obj.cells #[] 118)) (b0 + 2) (.slice (some ⟨u0.heap.size, 0, none⟩) 0 0) []) := OwW.empty _ _ _ rfl HS_0.out
 have XP_1 := kide (XP_0.out.later hbx)
 have XR_1 := kide (XR_0.out.later hbx)
 have NI_1 := kide (NI_0.out.later hbx)
 have B_1 := kide (B_0.out.trans (hbx.mono B_0.out.size))
 have HS_1 : Hid (b0 + 2 ≤ (u0.alloc (Obj.cells #[] 118)).heap.size) := Nat.le_trans HS_0.out hbx.size
 obtain ⟨ge, hge⟩ : ∃ z, u0.heap.size = z := ⟨_, rfl⟩
 rw [hge] at OE_1
 simp only [hge]
 clear hge hbx
 generalize u0.alloc (Obj.cells #[] 118) = u1 at *
 have c0_1 : u1.cell? ⟨b0, 4, none⟩ = some (Value.int .i64 bw) := XP_1.out.cell 4
 have c1_1 : u1.cell? ⟨b0, 5, none⟩ = some (Value.slice wa nw wc) := XP_1.out.cell 5
 have hs1 : Hid ((fun uu => uu.cell? ⟨b0, 4, none⟩ = some (Value.int .i64 bw) ∧ uu.cell? ⟨b0, 5, none⟩ = some (Value.slice wa nw wc)) u1) := ⟨c0_1, c1_1⟩
 refine hK _ _ (Sx.before (by kernel_rfl) hs1.out) ?_
 clear hK K
 try go_simp
 refine rdX (rs := [7]) (AllX.cons rfl (fun K hK => ?_) AllX.nil)
 refine step_appWr _ rfl _ _ rfl (b0 + 2) (.slice (some ⟨ge, 0, none⟩) 0 0) [] ws (by first | rfl | simp [Act.eval]) OE_1.out wa wc (by rw [HNW.out]; first | rfl | simp [Act.eval]) hw0 (HX.out _ B_1.out) (by rw [HNW.out]; simp; omega) HS_1.out ?_
 intro v7 u2 ho7 hg7
 try rw [List.nil_append] at ho7
 have XP_2 := kide (bz_gr XP_1.out (show b0 < b0 + 2 by omega) (fun k hk => own_ge OE_1.out hk) hg7)
 have XR_2 := kide (bz_gr XR_1.out (show b0 + 1 < b0 + 2 by omega) (fun k hk => own_ge OE_1.out hk) hg7)
 have NI_2 := kide (ni_gr NI_1.out ⟨_, OE_1.out⟩ hg7)
 have B_2 := kide (Below.grown B_1.out hg7 B_1.out.size (fun j hj => by have := own_ge OE_1.out hj; have := HB0.out; omega))
 have HS_2 : Hid (b0 + 2 ≤ u2.heap.size) := Nat.le_trans HS_1.out hg7.size
 obtain ⟨a7, c7, rfl, hn7⟩ := ho7.shape
 have HC7 := kide (cap0 ho7)
 rw [HNW.out]
 have NW_2 := kide hn7
 clear ho7 hg7 hn7
 have c0_2 : u2.cell? ⟨b0, 4, none⟩ = some (Value.int .i64 bw) := XP_2.out.cell 4
 have c1_2 : u2.cell? ⟨b0, 5, none⟩ = some (Value.slice wa nw wc) := XP_2.out.cell 5
 have hs2 : Hid ((fun uu => uu.cell? ⟨b0, 4, none⟩ = some (Value.int .i64 bw) ∧ uu.cell? ⟨b0, 5, none⟩ = some (Value.slice wa nw wc)) u2) := ⟨c0_2, c1_2⟩
 refine hK _ _ (Sx.before (by kernel_rfl) hs2.out) ?_
 clear hK K
 try go_simp
 refine tkU (i := 8) (v := Value.agg #[.int .i64 bw, .slice a7 nw c7]) rfl (Sx.before (by kernel_rfl) hs2.out) ?_
 try go_simp
 refine tkU (i := 9) (v := Value.pointer (some ⟨b0, 4, none⟩)) rfl (Sx.before (by kernel_rfl) hs2.out) ?_
 try go_simp
 refine rdX (rs := [10]) (AllX.cons rfl (fun K hK => ?_) AllX.nil)
 have e4 := XP_2.out.cell 4
 have e5 := XP_2.out.cell 5
 have f4 := XP_2.out.froz 4
 have f5 := XP_2.out.froz 5
 simp at e4 e5
 go_simp
 have XP_3 : Hid (Bz ((u2.setCell ⟨b0, 4, none⟩ (Value.int .i64 bw)).setCell ⟨b0, 5, none⟩ (Value.slice a7 nw c7)) b0 #[.int .i64 op, .int .i64 vr, .int .i64 aa, .int .i64 bb, .int .i64 bw, .slice a7 nw c7, .slice a5 nk c5] 67) := (XP_2.out.set 4 _).set 5 _
 have XR_3 : Hid (Bz ((u2.setCell ⟨b0, 4, none⟩ (Value.int .i64 bw)).setCell ⟨b0, 5, none⟩ (Value.slice a7 nw c7)) (b0 + 1) #[.int .i64 0, .int .i64 0, .int .i64 0, .int .i64 0, .int .i64 0, .slice none 0 0, .slice none 0 0] 67) := (XR_2.out.other (by omega) 4 _).other (by omega) 5 _
 have NI_3 : Hid (Ni ((u2.setCell ⟨b0, 4, none⟩ (Value.int .i64 bw)).setCell ⟨b0, 5, none⟩ (Value.slice a7 nw c7)) (b0 + 2) a5 ks) := ni_set (ni_set NI_2.out XP_2.out (by decide) 4 _) (XP_2.out.set 4 (Value.int .i64 bw)) (by decide) 5 _
 have NW_3 : Hid (Nw ((u2.setCell ⟨b0, 4, none⟩ (Value.int .i64 bw)).setCell ⟨b0, 5, none⟩ (Value.slice a7 nw c7)) (b0 + 2) a7 ws) := nw_set (nw_set NW_2.out XP_2.out (by decide) 4 _) (XP_2.out.set 4 (Value.int .i64 bw)) (by decide) 5 _
 have B_3 : Hid (Below w.heap.size w ((u2.setCell ⟨b0, 4, none⟩ (Value.int .i64 bw)).setCell ⟨b0, 5, none⟩ (Value.slice a7 nw c7))) := (B_2.out.setCell (by rw [HB0.out]; exact Nat.le_refl _) _).setCell (by rw [HB0.out]; exact Nat.le_refl _) _
 clear e4 e5 f4 f5
 generalize ((u2.setCell ⟨b0, 4, none⟩ (Value.int .i64 bw)).setCell ⟨b0, 5, none⟩ (Value.slice a7 nw c7)) = u3 at *
 refine hK _ _ (Sx.behind (by kernel_rfl) trivial) ?_
 clear hK K
 try go_simp
 refine wpAnyX_done (by kernel_rfl) ?_ _
 have z0 := XP_3.out.cell 0
 have z1 := XP_3.out.cell 1
 have z2 := XP_3.out.cell 2
 have z3 := XP_3.out.cell 3
 have z4 := XP_3.out.cell 4
 have z5 := XP_3.out.cell 5
 have z6 := XP_3.out.cell 6
 have d0 := XR_3.out.cell 0
 have d1 := XR_3.out.cell 1
 have d2 := XR_3.out.cell 2
 have d3 := XR_3.out.cell 3
 have d4 := XR_3.out.cell 4
 have d5 := XR_3.out.cell 5
 have d6 := XR_3.out.cell 6
 have e0 := XR_3.out.froz 0
 have e1 := XR_3.out.froz 1
 have e2 := XR_3.out.froz 2
 have e3 := XR_3.out.froz 3
 have e4 := XR_3.out.froz 4
 have e5 := XR_3.out.froz 5
 have e6 := XR_3.out.froz 6
 simp at z0 d0 z1 d1 z2 d2 z3 d3 z4 d4 z5 d5 z6 d6
 go_wp2_with fail
 have XF : Hid (Bz (((((((u3.setCell ⟨b0 + 1, 0, none⟩ (Value.int .i64 op)).setCell ⟨b0 + 1, 1, none⟩ (Value.int .i64 vr)).setCell ⟨b0 + 1, 2, none⟩ (Value.int .i64 aa)).setCell ⟨b0 + 1, 3, none⟩ (Value.int .i64 bb)).setCell ⟨b0 + 1, 4, none⟩ (Value.int .i64 bw)).setCell ⟨b0 + 1, 5, none⟩ (Value.slice a7 nw c7)).setCell ⟨b0 + 1, 6, none⟩ (Value.slice a5 nk c5)) (b0 + 1) #[.int .i64 op, .int .i64 vr, .int .i64 aa, .int .i64 bb, .int .i64 bw, .slice a7 nw c7, .slice a5 nk c5] 67) := (((((((XR_3.out.set 0 (Value.int .i64 op)).set 1 (Value.int .i64 vr)).set 2 (Value.int .i64 aa)).set 3 (Value.int .i64 bb)).set 4 (Value.int .i64 bw)).set 5 (Value.slice a7 nw c7)).set 6 (Value.slice a5 nk c5))
 have NF := kide (nw_set (nw_set (nw_set (nw_set (nw_set (nw_set (nw_set NW_3.out XR_3.out (by decide) 0 (Value.int .i64 op)) (XR_3.out.set 0 (Value.int .i64 op)) (by decide) 1 (Value.int .i64 vr)) ((XR_3.out.set 0 (Value.int .i64 op)).set 1 (Value.int .i64 vr)) (by decide) 2 (Value.int .i64 aa)) (((XR_3.out.set 0 (Value.int .i64 op)).set 1 (Value.int .i64 vr)).set 2 (Value.int .i64 aa)) (by decide) 3 (Value.int .i64 bb)) ((((XR_3.out.set 0 (Value.int .i64 op)).set 1 (Value.int .i64 vr)).set 2 (Value.int .i64 aa)).set 3 (Value.int .i64 bb)) (by decide) 4 (Value.int .i64 bw)) (((((XR_3.out.set 0 (Value.int .i64 op)).set 1 (Value.int .i64 vr)).set 2 (Value.int .i64 aa)).set 3 (Value.int .i64 bb)).set 4 (Value.int .i64 bw)) (by decide) 5 (Value.slice a7 nw c7)) ((((((XR_3.out.set 0 (Value.int .i64 op)).set 1 (Value.int .i64 vr)).set 2 (Value.int .i64 aa)).set 3 (Value.int .i64 bb)).set 4 (Value.int .i64 bw)).set 5 (Value.slice a7 nw c7)) (by decide) 6 (Value.slice a5 nk c5))
 have IF := kide (ni_set (ni_set (ni_set (ni_set (ni_set (ni_set (ni_set NI_3.out XR_3.out (by decide) 0 (Value.int .i64 op)) (XR_3.out.set 0 (Value.int .i64 op)) (by decide) 1 (Value.int .i64 vr)) ((XR_3.out.set 0 (Value.int .i64 op)).set 1 (Value.int .i64 vr)) (by decide) 2 (Value.int .i64 aa)) (((XR_3.out.set 0 (Value.int .i64 op)).set 1 (Value.int .i64 vr)).set 2 (Value.int .i64 aa)) (by decide) 3 (Value.int .i64 bb)) ((((XR_3.out.set 0 (Value.int .i64 op)).set 1 (Value.int .i64 vr)).set 2 (Value.int .i64 aa)).set 3 (Value.int .i64 bb)) (by decide) 4 (Value.int .i64 bw)) (((((XR_3.out.set 0 (Value.int .i64 op)).set 1 (Value.int .i64 vr)).set 2 (Value.int .i64 aa)).set 3 (Value.int .i64 bb)).set 4 (Value.int .i64 bw)) (by decide) 5 (Value.slice a7 nw c7)) ((((((XR_3.out.set 0 (Value.int .i64 op)).set 1 (Value.int .i64 vr)).set 2 (Value.int .i64 aa)).set 3 (Value.int .i64 bb)).set 4 (Value.int .i64 bw)).set 5 (Value.slice a7 nw c7)) (by decide) 6 (Value.slice a5 nk c5))
 have BF : Hid (Below w.heap.size w (((((((u3.setCell ⟨b0 + 1, 0, none⟩ (Value.int .i64 op)).setCell ⟨b0 + 1, 1, none⟩ (Value.int .i64 vr)).setCell ⟨b0 + 1, 2, none⟩ (Value.int .i64 aa)).setCell ⟨b0 + 1, 3, none⟩ (Value.int .i64 bb)).setCell ⟨b0 + 1, 4, none⟩ (Value.int .i64 bw)).setCell ⟨b0 + 1, 5, none⟩ (Value.slice a7 nw c7)).setCell ⟨b0 + 1, 6, none⟩ (Value.slice a5 nk c5))) := (((((((B_3.out.setCell (by rw [HB0.out]; exact Nat.le_succ _) _).setCell (by rw [HB0.out]; exact Nat.le_succ _) _).setCell (by rw [HB0.out]; exact Nat.le_succ _) _).setCell (by rw [HB0.out]; exact Nat.le_succ _) _).setCell (by rw [HB0.out]; exact Nat.le_succ _) _).setCell (by rw [HB0.out]; exact Nat.le_succ _) _).setCell (by rw [HB0.out]; exact Nat.le_succ _) _)
 have q0 := XF.out.cell 0
 have q1 := XF.out.cell 1
 have q2 := XF.out.cell 2
 have q3 := XF.out.cell 3
 have q4 := XF.out.cell 4
 have q5 := XF.out.cell 5
 have q6 := XF.out.cell 6
 clear z0 d0 e0 z1 d1 e1 z2 d2 e2 z3 d3 e3 z4 d4 e4 z5 d5 e5 z6 d6 e6
 generalize (((((((u3.setCell ⟨b0 + 1, 0, none⟩ (Value.int .i64 op)).setCell ⟨b0 + 1, 1, none⟩ (Value.int .i64 vr)).setCell ⟨b0 + 1, 2, none⟩ (Value.int .i64 aa)).setCell ⟨b0 + 1, 3, none⟩ (Value.int .i64 bb)).setCell ⟨b0 + 1, 4, none⟩ (Value.int .i64 bw)).setCell ⟨b0 + 1, 5, none⟩ (Value.slice a7 nw c7)).setCell ⟨b0 + 1, 6, none⟩ (Value.slice a5 nk c5)) = uf at *
 exact bodyPost_ret (v := Value.agg #[.int .i64 op, .int .i64 vr, .int .i64 aa, .int .i64 bb, .int .i64 bw, .slice a7 nw c7, .slice a5 nk c5]) (by simp [results, Tryz.results55, go_sem, q0, q1, q2, q3, q4, q5, q6]) rfl ⟨a7, c7, a5, c5, rfl, Nw.mono NF.out (by have := HB0.out; omega), Ni.mono IF.out (by have := HB0.out; omega), ⟨HC7.out, HC5.out⟩, BF.out⟩
theorem l3CopyNode_any (x : Tc) (wa ka : Option Addr) (wc kc : Nat) (w : World) (hx : Rd w wa x.ws) (hk : RdI w ka x.ks) (hw0 : wa = none → wc = 0) (hk0 : ka = none → kc = 0) :
  Calls Tryz.prog 55 #[.agg #[.int .i64 x.op, .int .i64 x.vr, .int .i64 x.a, .int .i64 x.b, .int .i64 x.bw, .slice wa x.ws.length wc, .slice ka x.ks.length kc]] w (RetCp x.op x.vr x.a x.b x.bw x.ws x.ks x.ws.length x.ks.length w) :=
 (l3CopyNodeQ_any x wa ka wc kc w hx hk hw0 hk0).mono fun e w' ⟨a1, c1, a2, c2, h1, h2, h3, _, h5⟩ => ⟨a1, c1, a2, c2, h1, h2, h3, h5⟩

def Sn (xs : List Tg) : Prop := ∀ x ∈ xs, (x.wa = none → x.wc = 0) ∧ (x.ka = none → x.kc = 0)
def RetSh (ns : List Tc) (w : World) (e : Ending) (w' : World) : Prop := ∃ v l tv, e = .returned (.tuple #[.agg #[v], tv]) ∧ Ts w' w.heap.size v l ∧ l.map Tg.ct = (shTo ns ns.length).1 ∧ OI w' w.heap.size tv (shTo ns ns.length).2 ∧ Below w.heap.size w w'

structure ShM (w wr : World) (b0 : Nat) (v tv : Value) (l : List Tg) (st : List Tc × List Int) : Prop where
 br : Bz wr b0 #[.slice none 0 0] 30
 bo : Bz wr (b0 + 1) #[v] 30
 ts : Ts wr (b0 + 2) v l
 eq : l.map Tg.ct = st.1
 ot : OI wr (b0 + 2) tv st.2
 dj : ∀ x ∈ l, ∀ p, x.ka = some p → tv.ownBlock ≠ some p.block
 bl : Below w.heap.size w wr
 sz : b0 + 2 ≤ wr.heap.size
theorem ShM.later {w wr wr' : World} {b0 : Nat} {v tv : Value} {l : List Tg} {st : List Tc × List Int} (h : ShM w wr b0 v tv l st) (hb : Below wr.heap.size wr wr') : ShM w wr' b0 v tv l st :=
 ⟨h.br.later hb, h.bo.later hb, h.ts.later hb, h.eq, h.ot.later hb, h.dj, h.bl.trans (hb.mono h.bl.size), Nat.le_trans h.sz hb.size⟩
theorem ShM.out {w wr wr' : World} {b0 g N : Nat} {v tv : Value} {l : List Tg} {st : List Tc × List Int} (h : ShM w wr b0 v tv l st) (hg : wr.grownBy wr' (some g)) (hN : N ≤ g) (hl : ∀ x ∈ l, (∀ p, x.wa = some p → p.block < N) ∧ ∀ p, x.ka = some p → p.block < N) (ht : ∀ b, tv.ownBlock = some b → b < N) (hv : ∀ b, v.ownBlock = some b → b < N) (hb : b0 + 2 ≤ N) (hw : w.heap.size ≤ b0) : ShM w wr' b0 v tv l st where
 br := (hg.block b0 h.br.lt (fun e => by cases e; omega)).trans h.br
 bo := (hg.block (b0 + 1) h.bo.lt (fun e => by cases e; omega)).trans h.bo
 ts := ⟨h.ts.row.move fun b hb' => hg.block b (h.ts.row.lt hb').2 (fun e => by cases e; have := hv _ hb'; omega), fun x hx => by
   have h1 := h.ts.wn x hx
   rcases h1 with ⟨k1, k2⟩ | ⟨g', cur, k1, k2, k3, k4⟩
   ·refine .inl ⟨k1, fun y e => ?_⟩
    obtain ⟨q1, q2, cur, q3⟩ := k2 y e
    exact ⟨q1, q2, cur, (hg.block _ (lt_of_block q3) (fun e' => by have := (hl x hx).1 y e; cases e'; omega)).trans q3⟩
   ·exact .inr ⟨g', cur, k1, k2, (hg.block _ (lt_of_block k3) (fun e' => by have := (hl x hx).1 _ k1; cases e'; simp only at this; omega)).trans k3, k4⟩, fun x hx => by
   have h1 := h.ts.kn x hx
   rcases h1 with ⟨k1, k2⟩ | ⟨g', cur, k1, k2, k3, k4⟩
   ·refine .inl ⟨k1, fun y e => ?_⟩
    obtain ⟨q1, q2, cur, q3⟩ := k2 y e
    exact ⟨q1, q2, cur, (hg.block _ (lt_of_block q3) (fun e' => by have := (hl x hx).2 y e; cases e'; omega)).trans q3⟩
   ·exact .inr ⟨g', cur, k1, k2, (hg.block _ (lt_of_block k3) (fun e' => by have := (hl x hx).2 _ k1; cases e'; simp only at this; omega)).trans k3, k4⟩, h.ts.wd, h.ts.kd⟩
 eq := h.eq
 ot := h.ot.move fun b hb' => hg.block b (h.ot.lt hb').2 (fun e => by cases e; have := ht _ hb'; omega)
 dj := h.dj
 bl := h.bl.grown hg h.bl.size (fun k e => by cases e; omega)
 sz := Nat.le_trans h.sz hg.size
theorem OI.typed9 {w : World} {B : Nat} {v : Value} {l : List Int} (h : OI w B v l) {b : Nat} (hb : v.ownBlock = some b) : ∃ cur, w.heap[b]? = some (.cells cur 2 (0, 0)) := by
 rcases h.2 with ⟨rfl, -⟩ | ⟨g, cap, cur, rfl, hg, hh, -⟩
 ·cases hb
 ·cases hb; exact ⟨_, hh⟩
theorem ShM.push {w wr wt w5 : World} {b0 N : Nat} {v v' tv : Value} {l : List Tg} {st1 : List Tc} {to : List Int} {y : Tg} (h : ShM w wr b0 v tv l (st1, to)) (hb : Below wr.heap.size wr wt) (hg : wt.grownBy w5 v.ownBlock) (ho : OT w5 (b0 + 2) v' (l ++ [y])) (hy : Nw wt N y.wa y.ct.ws) (hk : Ni wt N y.ka y.ct.ks) (hN : ∀ x ∈ l, (∀ p, x.wa = some p → p.block < N) ∧ ∀ p, x.ka = some p → p.block < N) (ht : ∀ b, tv.ownBlock = some b → b < N) (hB : b0 + 2 ≤ N) (hw : w.heap.size ≤ b0) : ShM w (w5.setCell ⟨b0 + 1, 0, none⟩ v') b0 v' tv (l ++ [y]) (st1 ++ [y.ct], to) := by
 have h1 := h.later hb
 have hts := h.ts.app hb hB hN hy hk hg ho
 have hbo : Bz w5 (b0 + 1) #[v] 30 := (hg.block (b0 + 1) h1.bo.lt (fun e => by have := (h1.ts.row.lt e.symm).1; omega)).trans h1.bo
 have hbr : Bz w5 b0 #[.slice none 0 0] 30 := (hg.block b0 h1.br.lt (fun e => by have := (h1.ts.row.lt e.symm).1; omega)).trans h1.br
 refine ⟨hbr.other (by omega) 0 _, hbo.set 0 _, ⟨hts.row.move fun b hb' => heap_setCell_other _ _ _ _ (fun e => by have := (hts.row.lt hb').1; simp only [] at e; omega), fun x hx => nw_set (hts.wn x hx) hbo (by decide) 0 _, fun x hx => ni_set (hts.kn x hx) hbo (by decide) 0 _, hts.wd, hts.kd⟩, ?_, ?_, ?_, ?_, ?_⟩
 ·have h9 := h.eq
  simp only [] at h9 ⊢
  rw [List.map_append, h9]
  rfl
 ·refine OI.move (w := w5) ?_ fun b hb' => heap_setCell_other _ _ _ _ (fun e => ?_)
  ·refine h1.ot.move fun b hb' => hg.block b (h1.ot.lt hb').2 (fun e => ?_)
   obtain ⟨c1, k1⟩ := h1.ot.typed9 hb'
   obtain ⟨c2, k2⟩ := h1.ts.row.typed e.symm
   rw [k1] at k2
   cases k2
  ·have := (h1.ot.lt hb').1
   simp only [] at e
   omega
 ·intro x hx p hp e
  rcases List.mem_append.1 hx with hx | hx
  ·exact h.dj x hx p hp e
  ·simp at hx
   subst hx
   have h8 := (ni_lt hk hp).1
   have := ht _ e
   omega
 ·exact (h1.bl.grown hg h1.bl.size (fun k e => by have := (h1.ts.row.lt e).1; omega)).setCell (by simp only []; omega) _
 ·have := Nat.le_trans h1.sz hg.size
  simpa using this
theorem ShM.told {w wr wt w5 : World} {b0 g m c : Nat} {v tv : Value} {l : List Tg} {st1 : List Tc} {to : List Int} {y : Int} (h : ShM w wr b0 v tv l (st1, to)) (hb : Below wr.heap.size wr wt) (hg : wt.grownBy w5 tv.ownBlock) (ho : OI w5 (b0 + 2) (.slice (some ⟨g, 0, none⟩) m c) (to ++ [y])) (hat : tv.ownBlock = some g ∨ g = wt.heap.size) (hw : w.heap.size ≤ b0) : ShM w w5 b0 v (.slice (some ⟨g, 0, none⟩) m c) l (st1, to ++ [y]) := by
 have h1 := h.later hb
 refine ⟨(hg.block b0 h1.br.lt (fun e => by have := (h1.ot.lt e.symm).1; omega)).trans h1.br, (hg.block (b0 + 1) h1.bo.lt (fun e => by have := (h1.ot.lt e.symm).1; omega)).trans h1.bo, ⟨h1.ts.row.move fun b hb' => hg.block b (h1.ts.row.lt hb').2 (fun e => ?_), fun x hx => (h1.ts.wn x hx).kept fun k cur hc => hg.block k (lt_of_block hc) (fun e => ?_), fun x hx => ?_, h.ts.wd, h.ts.kd⟩, h.eq, ho, fun x hx p hp e => ?_, h1.bl.grown hg h1.bl.size (fun k e => by have := (h1.ot.lt e).1; omega), Nat.le_trans h1.sz hg.size⟩
 ·obtain ⟨c1, k1⟩ := h1.ts.row.typed hb'
  obtain ⟨c2, k2⟩ := h1.ot.typed9 e.symm
  rw [k1] at k2
  cases k2
 ·obtain ⟨c2, k2⟩ := h1.ot.typed9 e.symm
  rw [hc] at k2
  cases k2
 ·rcases h1.ts.kn x hx with ⟨k1, k2⟩ | ⟨g', cur, k1, k2, k3, k4⟩
  ·refine .inl ⟨k1, fun z e => ?_⟩
   obtain ⟨q1, q2, cur, q3⟩ := k2 z e
   exact ⟨q1, q2, cur, (hg.block _ (lt_of_block q3) (fun e' => h.dj x hx z e e'.symm)).trans q3⟩
  ·exact .inr ⟨g', cur, k1, k2, (hg.block _ (lt_of_block k3) (fun e' => h.dj x hx _ k1 e'.symm)).trans k3, k4⟩
 ·simp only [Value.ownBlock] at e
  have e9 : g = p.block := by simpa using e
  rcases hat with h8 | h8
  ·exact h.dj x hx p hp (by rw [h8, e9])
  ·have := (ni_lt (h1.ts.kn x hx) hp).2
   omega
theorem Ni.put {w : World} {lo g j : Nat} {xs : List Int} (h : Ni w lo (some ⟨g, 0, none⟩) xs) (hj : j < xs.length) (y : Int) : Ni (w.setCell ⟨g, j, none⟩ (.int .i64 y)) lo (some ⟨g, 0, none⟩) (xs.set j y) := by
 rcases h with ⟨h1, -⟩ | ⟨g', cur, h1, h2, h3, h4⟩
 ·rw [h1] at hj; simp at hj
 ·cases h1
  refine .inr ⟨g, cur.setIfInBounds j (.int .i64 y), rfl, h2, heap_setCell_same w g j _ _ _ h3, fun i hi => ?_⟩
  simp at hi
  have hjc := (Array.getElem?_eq_some_iff.1 (h4 j hj)).1
  by_cases e : i = j
  ·subst e
   rw [Array.getElem?_setIfInBounds_self_of_lt hjc]
   simp [List.getD, hi]
  ·rw [Array.getElem?_setIfInBounds_ne (fun h => e h.symm), h4 i hi]
   simp [List.getD, List.getElem?_set, Ne.symm e]
theorem Ni.cell {w : World} {lo g j : Nat} {xs : List Int} (h : Ni w lo (some ⟨g, 0, none⟩) xs) (hj : j < xs.length) : w.cell? ⟨g, j, none⟩ = some (.int .i64 (xs.getD j 0)) ∧ w.frozen? ⟨g, j, none⟩ = false := by
 rcases h with ⟨h1, -⟩ | ⟨g', cur, h1, h2, h3, h4⟩
 ·rw [h1] at hj; simp at hj
 ·cases h1
  exact ⟨by rw [cell_of_row w g j _ _ _ h3]; exact h4 j hj, frozen_of_row w g j _ _ h3⟩
def mvK (to ks : List Int) (j : Nat) : List Int := (ks.take j).map (fun k => to.getD k.toNat 0) ++ ks.drop j
theorem mvK_len (to ks : List Int) (j : Nat) : (mvK to ks j).length = ks.length := by simp [mvK]; omega
theorem mvK_get (to ks : List Int) {j i : Nat} (h : j ≤ i) : (mvK to ks j).getD i 0 = ks.getD i 0 := by
 simp only [mvK, List.getD_eq_getElem?_getD]
 by_cases hj : j ≤ ks.length
 ·rw [List.getElem?_append_right (by simp; omega), List.getElem?_drop]
  simp
  rw [Nat.min_eq_left hj, show j + (i - j) = i by omega]
 ·rw [List.getElem?_eq_none (by simp; omega), List.getElem?_eq_none (by omega)]
theorem mvK_step (to ks : List Int) {j : Nat} (h : j < ks.length) : (mvK to ks j).set j (to.getD (ks.getD j 0).toNat 0) = mvK to ks (j + 1) := by
 have e : ks.getD j 0 = ks[j] := by simp [List.getD, h]
 have e1 : ks.drop j = ks[j] :: ks.drop (j + 1) := List.drop_eq_getElem_cons h
 have e2 : ks.take (j + 1) = ks.take j ++ [ks[j]] := by rw [List.take_add_one, List.getElem?_eq_getElem h]; rfl
 rw [e]
 simp only [mvK]
 rw [e1, e2, List.map_append, List.set_append_right _ _ (by simp; omega)]
 simp [Nat.min_eq_left (Nat.le_of_lt h)]
 rw [e1]
 rfl
theorem mvK_all (to ks : List Int) : mvK to ks ks.length = ks.map fun k => to.getD k.toNat 0 := by simp [mvK]
set_option maxHeartbeats 4000000 in
set_option maxRecDepth 100000 in
theorem l3Share_any (a : Option Addr) (c n : Nat) (xs : List Tg) (w : World) (hr : RdT w a xs) (hn : xs.length = n) (hs : Sn xs) (hk : ∀ (k : Nat) (n : Tc), (xs.map Tg.ct)[k]? = some n → ∀ j ∈ n.ks, 0 ≤ j ∧ j < (k : Int)) (hn4 : n ≤ 10000) :
  Calls Tryz.prog 33 #[.slice a n c] w (RetSh (xs.map Tg.ct) w) := by
 have HR := kide hr
 have HN := kide hn
 have HS := kide hs
 have HK := kide hk
 have HF := kide (fun k (hk' : k ≤ (xs.map Tg.ct).length) => shTo_f hk k hk')
 have HOK := kide hr.ok
 obtain ⟨ns, hns⟩ : ∃ ns, xs.map Tg.ct = ns := ⟨_, rfl⟩
 rw [hns] at HK HF HOK ⊢
 have HNS := kide hns
 have HNL : Hid (ns.length = n) := by show _ = _; rw [← hns, List.length_map]; exact hn
 have hb2 : Below w.heap.size w ((w.alloc (Obj.cells #[.slice none 0 0] 30)).alloc (Obj.cells #[.slice none 0 0] 30)) := (blA _ _).alloc (by simp) _
 have XR0 := kide (Bz.later (Bz.new w #[.slice none 0 0] 30) ((Below.refl _ _).alloc (Nat.le_refl _) (Obj.cells #[.slice none 0 0] 30)))
 have XO0 : Hid (Bz ((w.alloc (Obj.cells #[.slice none 0 0] 30)).alloc (Obj.cells #[.slice none 0 0] 30)) (w.heap.size + 1) #[.slice none 0 0] 30) := by
  have h9 := Bz.new (w.alloc (Obj.cells #[.slice none 0 0] 30)) #[.slice none 0 0] 30
  rw [show (w.alloc (Obj.cells #[.slice none 0 0] 30)).heap.size = w.heap.size + 1 by simp] at h9
  exact h9
 have hsz : ((w.alloc (Obj.cells #[.slice none 0 0] 30)).alloc (Obj.cells #[.slice none 0 0] 30)).heap.size = w.heap.size + 1 + 1 := by simp
 have OE := OI.empty ((w.alloc (Obj.cells #[.slice none 0 0] 30)).alloc (Obj.cells #[.slice none 0 0] 30)) (w.heap.size + 2) (by omega)
 rw [hsz] at OE
 have hb3 : Below ((w.alloc (Obj.cells #[.slice none 0 0] 30)).alloc (Obj.cells #[.slice none 0 0] 30)).heap.size ((w.alloc (Obj.cells #[.slice none 0 0] 30)).alloc (Obj.cells #[.slice none 0 0] 30)) (((w.alloc (Obj.cells #[.slice none 0 0] 30)).alloc (Obj.cells #[.slice none 0 0] 30)).alloc (Obj.cells #[] 2)) := blA _ _
 have M0 : Hid (ShM w (((w.alloc (Obj.cells #[.slice none 0 0] 30)).alloc (Obj.cells #[.slice none 0 0] 30)).alloc (Obj.cells #[] 2)) w.heap.size (.slice none 0 0) (.slice (some ⟨w.heap.size + 1 + 1, 0, none⟩) 0 0) [] (shTo ns 0)) :=
  ⟨XR0.out.later hb3, XO0.out.later hb3, Ts.nil _ _, rfl, OE, by simp, hb2.trans (hb3.mono hb2.size), by simp⟩
 clear hr hn hs hk hns XR0 XO0 hsz OE hb2 hb3
 go_enter Tryz.func33, Tryz.ntmps33
 go_wp2_with fail
 generalize ((w.alloc (Obj.cells #[.slice none 0 0] 30)).alloc (Obj.cells #[.slice none 0 0] 30)).alloc (Obj.cells #[] 2) = W at *
 obtain ⟨b0, hb0⟩ : ∃ b0, w.heap.size = b0 := ⟨_, rfl⟩
 rw [hb0] at M0
 simp only [hb0]
 have HB0 := kide hb0
 clear hb0
 go_loopw [5, 6] (fun tv i wr => ∃ (k : Nat) (v : Value) (l : List Tg), k ≤ n ∧ i = .int .i64 (k : Int) ∧ ShM w wr b0 v tv l (shTo ns k)) (fun _ i _ => n - (intOf i).toNat)
 case atStart => exact ⟨0, _, [], Nat.zero_le _, rfl, M0.out⟩
 case round =>
  clear M0
  obtain ⟨k, v, l, hk, rfl, hm⟩ := hrel
  have HM := kide hm
  by_cases hlt : k < n
  ·obtain ⟨x, gx⟩ : ∃ x, xs[k]? = some x := ⟨xs[k]'(by rw [HN.out]; exact hlt), List.getElem?_eq_getElem _⟩
   have gn : ns[k]? = some x.ct := by rw [← HNS.out]; simp [gx]
   obtain ⟨bq, oq, rfl, hcq⟩ : ∃ b o, a = some ⟨b, o, none⟩ ∧ ∀ i y, xs[i]? = some y → TgAt w b (o + i * 7) y := by
    rcases HR.out.2 with h0 | h0
    ·rw [h0] at gx; simp at gx
    ·exact h0
   obtain ⟨⟨p0, p1, p2, p3, p4, p5, p6⟩, pw, pk, -⟩ := (hcq k x gx).later hm.bl
   simp only [Tg.hd] at p0 p1 p2 p3 p4 p5 p6
   obtain ⟨sw, sk⟩ := HS.out x (List.mem_of_getElem? gx)
   have HC := kide (l3CopyNode_any x.ct x.wa x.ka x.wc x.kc wr pw pk sw sk)
   have HST := kide (shTo_succ gn)
   have HFK := kide (HF.out k (by rw [HNL.out]; exact hk))
   have HKK := kide (HK.out k _ gn)
   have HOX := kide (HOK.out _ (List.mem_of_getElem? gn))
   have i0 : (k : Int) < (n : Int) := by omega
   generalize shTo ns k = st at *
   obtain ⟨st1, to⟩ := st
   clear gx gn hcq pw pk sw sk hm
   generalize x.ct = nd at *
   go_wp2_with fail
   refine Calls.mono HC.out ?_
   rintro e w2 ⟨a1, c1, a2, c2, rfl, hnw, hni, hb2⟩
   obtain ⟨N, hN⟩ : ∃ N, wr.heap.size = N := ⟨_, rfl⟩
   rw [hN] at hnw hni
   have HLB := kide HM.out.ts.below
   have HTB : Hid (∀ b, u5.ownBlock = some b → b < N) := fun b hb => by have := (HM.out.ot.lt hb).2; omega
   have HVB : Hid (∀ b, v.ownBlock = some b → b < N) := fun b hb => by have := (HM.out.ts.row.lt hb).2; omega
   rw [hN] at HLB
   have HBN : Hid (b0 + 2 ≤ N) := by have := HM.out.sz; show _ ≤ _; omega
   have M2 := kide (HM.out.later hb2)
   have hb3 : Below w2.heap.size w2 (w2.alloc (Obj.cells #[.int .i64 nd.op, .int .i64 nd.vr, .int .i64 nd.a, .int .i64 nd.b, .int .i64 nd.bw, .slice a1 nd.ws.length c1, .slice a2 nd.ks.length c2] 67)) := blA _ _
   have X3 := kide (Bz.new w2 #[.int .i64 nd.op, .int .i64 nd.vr, .int .i64 nd.a, .int .i64 nd.b, .int .i64 nd.bw, .slice a1 nd.ws.length c1, .slice a2 nd.ks.length c2] 67)
   have M3 := kide (M2.out.later hb3)
   have NW3 := kide (hnw.later hb3)
   have NI3 := kide (hni.later hb3)
   have HN2 : Hid (N ≤ w2.heap.size) := by have := hb2.size; show _ ≤ _; omega
   clear hb2 hb3 hnw hni HM M2 p0 p1 p2 p3 p4 p5 p6 HC hN
   go_wp2_with fail
   generalize w2.alloc (Obj.cells #[.int .i64 nd.op, .int .i64 nd.vr, .int .i64 nd.a, .int .i64 nd.b, .int .i64 nd.bw, .slice a1 nd.ws.length c1, .slice a2 nd.ks.length c2] 67) = w3 at *
   generalize w2.heap.size = ν at *
   obtain ⟨nk, hnk⟩ : ∃ nk, nd.ks.length = nk := ⟨_, rfl⟩
   rw [hnk] at X3
   simp only [hnk]
   have HNK := kide hnk
   have hnk2 : nk ≤ 1048576 := by rw [← hnk]; exact HOX.out.2.2.2.2.2.2.2.1
   obtain ⟨nw, hnw⟩ : ∃ nw, nd.ws.length = nw := ⟨_, rfl⟩
   rw [hnw] at X3
   simp only [hnw]
   have HNW := kide hnw
   have HTO := kide HFK.out.l2
   simp only [] at HTO
   clear hnk hnw
   go_loopw [8] (fun i wr => ∃ j : Nat, j ≤ nk ∧ i = .int .i64 (j : Int) ∧ ShM w wr b0 v u5 l (st1, to) ∧ Bz wr ν #[.int .i64 nd.op, .int .i64 nd.vr, .int .i64 nd.a, .int .i64 nd.b, .int .i64 nd.bw, .slice a1 nw c1, .slice a2 nk c2] 67 ∧ Nw wr N a1 nd.ws ∧ Ni wr N a2 (mvK to nd.ks j)) (fun i _ => nk - (intOf i).toNat)
   case atStart => exact ⟨0, Nat.zero_le _, rfl, M3.out, X3.out, NW3.out, by simpa [mvK] using NI3.out⟩
   case round =>
    clear M3 X3 NW3 NI3
    obtain ⟨j, hj, rfl, hm, hx, hw1, hi1⟩ := hrel
    have HM := kide hm
    have HX := kide hx
    have HW1 := kide hw1
    have HI1 := kide hi1
    have z6 := hx.cell 6
    simp at z6
    clear hm hx hw1 hi1
    by_cases hjk : j < nk
    ·have hjl : j < nd.ks.length := by rw [HNK.out]; exact hjk
     obtain ⟨g, hg2, hNg⟩ : ∃ g, a2 = some ⟨g, 0, none⟩ ∧ N ≤ g := by
      rcases HI1.out with ⟨h1, -⟩ | ⟨g, cur, h1, h2, -⟩
      ·have h9 := congrArg List.length h1; rw [mvK_len, List.length_nil] at h9; omega
      ·exact ⟨g, h1, h2⟩
     subst hg2
     obtain ⟨q0, q1⟩ := HI1.out.cell (j := j) (by rw [mvK_len]; exact hjl)
     rw [mvK_get to nd.ks (Nat.le_refl j)] at q0
     have HPUT := kide (fun y => HI1.out.put (j := j) (by rw [mvK_len]; exact hjl) y)
     have HSTP := kide (mvK_step to nd.ks hjl)
     have hkid := HKK.out (nd.ks.getD j 0) (by
      have e : nd.ks.getD j 0 = nd.ks[j] := by simp [List.getD, hjl]
      rw [e]; exact List.getElem_mem _)
     generalize nd.ks.getD j 0 = kj at *
     obtain ⟨hk0, hk1⟩ := hkid
     obtain ⟨kn, rfl⟩ := Int.eq_ofNat_of_zero_le hk0
     obtain ⟨ta, tc, rfl, hnt⟩ := HM.out.ot.ni
     simp only [] at hnt
     obtain ⟨gt, rfl⟩ : ∃ gt, ta = some ⟨gt, 0, none⟩ := by
      rcases hnt with ⟨h1, -⟩ | ⟨g', cur, h1, -⟩
      ·have := HTO.out; rw [h1] at this; simp at this; omega
      ·exact ⟨g', h1⟩
     obtain ⟨t0, -⟩ := hnt.cell (j := kn) (by rw [HTO.out]; omega)
     obtain ⟨y, hy⟩ : ∃ y, to.getD kn 0 = y := ⟨_, rfl⟩
     rw [hy] at t0
     rw [Int.toNat_natCast, hy] at HSTP
     have HP := kide (HPUT.out y)
     rw [HSTP.out] at HP
     have i1 : (j : Int) < (nk : Int) := by omega
     have i2 : (kn : Int) < (to.length : Int) := by rw [HTO.out]; exact hk1
     simp only []
     clear hnt hy HPUT HSTP hk0
     obtain ⟨cur, hgz⟩ : ∃ cur, Bz wr g cur 2 := by
      rcases HI1.out with ⟨h1, -⟩ | ⟨g', cur, h1, h2, h3, -⟩
      ·have h9 := congrArg List.length h1; rw [mvK_len, List.length_nil] at h9; omega
      ·cases h1; exact ⟨cur, h3⟩
     have hne : ν ≠ g := by
      rintro rfl
      have h9 := HX.out
      unfold Bz at h9 hgz
      rw [hgz] at h9
      cases h9
     have hg9 := grow_setT (World.grownBy.refl wr (some g)) j (.int .i64 y)
     have HM4 := kide ((HM.out.out hg9 hNg HLB.out HTB.out HVB.out HBN.out (by have := HB0.out; omega)).later ((Below.refl _ _).drew : Below (wr.setCell ⟨g, j, none⟩ (.int .i64 y)).heap.size (wr.setCell ⟨g, j, none⟩ (.int .i64 y)) (wr.setCell ⟨g, j, none⟩ (.int .i64 y)).drew))
     have HX4 := kide ((HX.out.other hne j (.int .i64 y)).later ((Below.refl _ _).drew : Below (wr.setCell ⟨g, j, none⟩ (.int .i64 y)).heap.size (wr.setCell ⟨g, j, none⟩ (.int .i64 y)) (wr.setCell ⟨g, j, none⟩ (.int .i64 y)).drew))
     have HW4 := kide ((nw_set HW1.out hgz (by decide) j (.int .i64 y)).later ((Below.refl _ _).drew : Below (wr.setCell ⟨g, j, none⟩ (.int .i64 y)).heap.size (wr.setCell ⟨g, j, none⟩ (.int .i64 y)) (wr.setCell ⟨g, j, none⟩ (.int .i64 y)).drew))
     have HI4 := kide (HP.out.later ((Below.refl _ _).drew : Below (wr.setCell ⟨g, j, none⟩ (.int .i64 y)).heap.size (wr.setCell ⟨g, j, none⟩ (.int .i64 y)) (wr.setCell ⟨g, j, none⟩ (.int .i64 y)).drew))
     clear hg9 hgz hne
     go_wp2_with fail
     go_region
     go_wp2
     exact ⟨⟨j + 1, by omega, by go_num, HM4.out, HX4.out, HW4.out, HI4.out⟩, by simp [intOf]; omega⟩
    ·have hjn : j = nd.ks.length := by rw [HNK.out]; omega
     rw [hjn, mvK_all] at HI1
     have HMV : Hid (mvT to nd = ⟨nd.op, nd.vr, nd.a, nd.b, nd.bw, nd.ws, nd.ks.map fun k => to.getD k.toNat 0⟩) := rfl
     obtain ⟨ks2, hks2⟩ : ∃ ks2, (nd.ks.map fun k => to.getD k.toNat 0) = ks2 := ⟨_, rfl⟩
     rw [hks2] at HI1 HMV
     have HK2 : Hid (ks2.length = nk) := by show _ = _; rw [← hks2, List.length_map, HNK.out]
     have HKR : Hid (∀ j ∈ ks2, 0 ≤ j ∧ j < (st1.length : Int)) := fun j hj => by
      rw [← hks2] at hj
      obtain ⟨q, hq, rfl⟩ := List.mem_map.1 hj
      obtain ⟨q0, q1⟩ := HKK.out q hq
      have hl := HTO.out
      have e1 : to.getD q.toNat 0 = to[q.toNat]'(by omega) := by
       rw [List.getD_eq_getElem?_getD, List.getElem?_eq_getElem (show q.toNat < to.length by omega)]
       rfl
      rw [e1]
      exact HFK.out.rg _ (List.getElem_mem _)
     clear hks2 hjn
     obtain ⟨md, hmd⟩ : ∃ md, mvT to nd = md := ⟨_, rfl⟩
     have HMD := kide hmd
     rw [hmd] at HMV
     have HL1 : Hid (st1.length ≤ k) := HFK.out.l1
     have HOS : Hid (∀ y ∈ st1, okT y) := fun y hy => fm_ok (HFK.out.fm y hy) HOK.out (N := st1.length) (by have := HL1.out; omega) (HFK.out.ks y hy)
     have HLL : Hid (l.length = st1.length) := by
      show _ = _
      have h9 := congrArg List.length HM.out.eq
      simpa using h9
     obtain ⟨va, vc, rfl⟩ := HM.out.ts.form
     have hLk : l.length ≤ 10000 := by have := HLL.out; have := HL1.out; omega
     have zo := HM.out.bo.cell 0
     simp at zo
     obtain ⟨ln, hln⟩ : ∃ ln, l.length = ln := ⟨_, rfl⟩
     rw [hln] at HM zo hLk
     have HLN := kide hln
     clear hln hmd
     go_wp2_with fail
     clear z6 zo hjk hj
     go_loopw [9, 10] (fun av i wr => ∃ q : Nat, q ≤ ln ∧ i = .int .i64 (q : Int) ∧ ShM w wr b0 (.slice va ln vc) u5 l (st1, to) ∧ Bz wr ν #[.int .i64 nd.op, .int .i64 nd.vr, .int .i64 nd.a, .int .i64 nd.b, .int .i64 nd.bw, .slice a1 nw c1, .slice a2 nk c2] 67 ∧ Nw wr N a1 nd.ws ∧ Ni wr N a2 ks2 ∧ ((av = .int .i64 (-1) ∧ ∀ j, j < q → st1[j]? ≠ some md) ∨ (∃ f : Nat, av = .int .i64 (f : Int) ∧ f + 1 = q ∧ fndT st1 md = some f))) (fun _ i _ => ln - (intOf i).toNat)
     case atStart => exact ⟨0, Nat.zero_le _, rfl, HM.out, HX.out, HW1.out, HI1.out, .inl ⟨rfl, fun j h => by omega⟩⟩
     case round =>
      clear HM HX HW1 HI1
      obtain ⟨q, hq, rfl, hm, hx, hw1, hi1, hdis⟩ := hrel
      have HM := kide hm
      have HX := kide hx
      have HW1 := kide hw1
      have HI1 := kide hi1
      have zo := hm.bo.cell 0
      simp at zo
      clear hm hx hw1 hi1
      rcases hdis with ⟨rfl, hno⟩ | ⟨f, rfl, hfq, hff⟩
      ·have HNO := kide hno
       clear hno
       by_cases hql : q < ln
       ·obtain ⟨y, gy⟩ : ∃ y, l[q]? = some y := ⟨l[q]'(by rw [HLN.out]; exact hql), List.getElem?_eq_getElem _⟩
        have gs : st1[q]? = some y.ct := by
         have h9 := HM.out.eq
         simp only [] at h9
         rw [← h9]
         simp [gy]
        obtain ⟨gv, cv, ev, y0, y1, y2, y3, y4, y5, y6⟩ := HM.out.ts.row.at gy
        injection ev with ev1 ev2 ev3
        subst ev1
        clear ev2 ev3
        simp only [Tg.hd] at y0 y1 y2 y3 y4 y5 y6
        have n0 := HX.out.cell 0
        have n1 := HX.out.cell 1
        have n2 := HX.out.cell 2
        have n3 := HX.out.cell 3
        have n4 := HX.out.cell 4
        have n5 := HX.out.cell 5
        have n6 := HX.out.cell 6
        simp at n0 n1 n2 n3 n4 n5 n6
        have hym := List.mem_of_getElem? gy
        obtain ⟨-, -, -, -, -, o1, o2, o3, o4⟩ := HOS.out y.ct (List.mem_of_getElem? gs)
        obtain ⟨-, -, -, -, -, m1, m2, m3, m4⟩ := HOX.out
        have HSN : Hid (∀ u, Below wr.heap.size wr u → Calls Tryz.prog 56 #[.agg #[.int .i64 y.ct.op, .int .i64 y.ct.vr, .int .i64 y.ct.a, .int .i64 y.ct.b, .int .i64 y.ct.bw, .slice y.wa y.ct.ws.length y.wc, .slice y.ka y.ct.ks.length y.kc], .agg #[.int .i64 nd.op, .int .i64 nd.vr, .int .i64 nd.a, .int .i64 nd.b, .int .i64 nd.bw, .slice a1 nw c1, .slice a2 nk c2]] u fun e w' => e = .returned (.bool (tcEq y.ct md)) ∧ Below u.heap.size u w') := fun u hu => by
         have hSN := l3SameNode_any y.ct ⟨nd.op, nd.vr, nd.a, nd.b, nd.bw, nd.ws, ks2⟩ y.wa a1 y.ka a2 y.wc c1 y.kc c2 u (((HM.out.ts.wn y hym).later hu).rd o1 o2) ((HW1.out.later hu).rd m1 m2) (((HM.out.ts.kn y hym).later hu).rd o3 o4) ((HI1.out.later hu).rd (by rw [HK2.out]; exact hnk2) (fun j hj => by have h8 := HKR.out j hj; have := HL1.out; exact ⟨by omega, by omega⟩))
         simp only [HNW.out, HK2.out] at hSN
         rw [← HMV.out] at hSN
         exact hSN
        have i4 : (q : Int) < (ln : Int) := by omega
        have GS := kide gs
        have lo1 := block_lt_of_cell zo
        have lg4 := block_lt_of_cell y0
        have ln0 := block_lt_of_cell n0
        simp only [] at lo1 lg4 ln0
        clear gy gs hym o1 o2 o3 o4 m1 m2 m3 m4
        obtain ⟨y9, ywa, ywc, yka, ykc⟩ := y
        obtain ⟨yop, yvr, yaa, ybb, ybw, yws, yks⟩ := y9
        simp only [] at HSN y0 y1 y2 y3 y4 y5 y6 GS
        cases hEq : tcEq ⟨yop, yvr, yaa, ybb, ybw, yws, yks⟩ md with
        | true =>
         rw [hEq] at HSN
         have HFN := kide (fndT_of (by rw [← tcEq_iff.1 hEq]; exact GS.out) HNO.out)
         clear hEq
         go_wp2_with fail
         refine wp_region_x (SA := fun _ => False) (SB := fun uu => Below wr.heap.size wr uu) (k := 999) (by kernel_rfl) ?_
         have hm0 : Hid (Below wr.heap.size wr wr.drew) := (Below.refl _ _).drew
         generalize wr.drew = m0 at *
         try go_simp
         refine tkP (i := 0) (v := Value.pointer (some ⟨b0 + 1, 0, none⟩)) rfl hm0.out ?_
         try go_simp
         refine tkS (i := 1) (v := Value.slice (some ⟨gv, 0, none⟩) ln vc) rfl hm0.out (fun uu hu => by have e0 := (kcell hu (b0 + 1) 0 lo1).trans zo; go_simp) ?_
         try go_simp
         refine tkP (i := 2) (v := Value.int .i64 (q : Int)) rfl hm0.out ?_
         try go_simp
         refine tkP (i := 3) (v := Value.pointer (some ⟨gv, q * 7, none⟩)) rfl hm0.out ?_
         try go_simp
         refine tkS (i := 4) (v := Value.agg #[.int .i64 yop, .int .i64 yvr, .int .i64 yaa, .int .i64 ybb, .int .i64 ybw, .slice ywa yws.length ywc, .slice yka yks.length ykc]) rfl hm0.out (fun uu hu => by have e0 := (kcell hu gv (q * 7) lg4).trans y0; have e1 := (kcell hu gv (q * 7 + 1) lg4).trans y1; have e2 := (kcell hu gv (q * 7 + 2) lg4).trans y2; have e3 := (kcell hu gv (q * 7 + 3) lg4).trans y3; have e4 := (kcell hu gv (q * 7 + 4) lg4).trans y4; have e5 := (kcell hu gv (q * 7 + 5) lg4).trans y5; have e6 := (kcell hu gv (q * 7 + 6) lg4).trans y6; go_simp) ?_
         try go_simp
         refine tkS (i := 5) (v := Value.agg #[.int .i64 nd.op, .int .i64 nd.vr, .int .i64 nd.a, .int .i64 nd.b, .int .i64 nd.bw, .slice a1 nw c1, .slice a2 nk c2]) rfl hm0.out (fun uu hu => by have e0 := (kcell hu ν 0 ln0).trans n0; have e1 := (kcell hu ν 1 ln0).trans n1; have e2 := (kcell hu ν 2 ln0).trans n2; have e3 := (kcell hu ν 3 ln0).trans n3; have e4 := (kcell hu ν 4 ln0).trans n4; have e5 := (kcell hu ν 5 ln0).trans n5; have e6 := (kcell hu ν 6 ln0).trans n6; go_simp) ?_
         try go_simp
         refine rdX (rs := [6]) (cnB rfl (fun K hK => ?_) AllX.nil)
         go_simp
         refine Calls.mono (HSN.out _ hm0.out) ?_
         rintro e m1 ⟨rfl, hb⟩
         have hm1 : Hid (Below wr.heap.size wr m1) := hm0.out.trans (hb.mono hm0.out.size)
         refine hK _ _ hm1.out ?_
         clear hK K hb
         try go_simp
         refine wpAnyX_done (by kernel_rfl) ?_ _
         skip
         have HM5 := kide (HM.out.later hm1.out)
         have HX5 := kide (HX.out.later hm1.out)
         have HW5 := kide (HW1.out.later hm1.out)
         have HI5 := kide (HI1.out.later hm1.out)
         go_wp2_with fail
         go_roundw
         case rel => exact ⟨q + 1, by omega, by go_num, HM5.out, HX5.out, HW5.out, HI5.out, .inr ⟨q, rfl, rfl, HFN.out⟩⟩
         case measure => simp [intOf]; omega
        | false =>
         rw [hEq] at HSN
         have HNO2 : Hid (∀ j, j < q + 1 → st1[j]? ≠ some md) := fun j hj => by
          by_cases e : j = q
          ·subst e
           rw [GS.out]
           intro e9
           cases e9
           rw [tcEq_iff.2 rfl] at hEq
           cases hEq
          ·exact HNO.out j (by omega)
         clear hEq
         go_wp2_with fail
         refine wp_region_x (SA := fun _ => False) (SB := fun uu => Below wr.heap.size wr uu) (k := 999) (by kernel_rfl) ?_
         have hm0 : Hid (Below wr.heap.size wr wr.drew) := (Below.refl _ _).drew
         generalize wr.drew = m0 at *
         try go_simp
         refine tkP (i := 0) (v := Value.pointer (some ⟨b0 + 1, 0, none⟩)) rfl hm0.out ?_
         try go_simp
         refine tkS (i := 1) (v := Value.slice (some ⟨gv, 0, none⟩) ln vc) rfl hm0.out (fun uu hu => by have e0 := (kcell hu (b0 + 1) 0 lo1).trans zo; go_simp) ?_
         try go_simp
         refine tkP (i := 2) (v := Value.int .i64 (q : Int)) rfl hm0.out ?_
         try go_simp
         refine tkP (i := 3) (v := Value.pointer (some ⟨gv, q * 7, none⟩)) rfl hm0.out ?_
         try go_simp
         refine tkS (i := 4) (v := Value.agg #[.int .i64 yop, .int .i64 yvr, .int .i64 yaa, .int .i64 ybb, .int .i64 ybw, .slice ywa yws.length ywc, .slice yka yks.length ykc]) rfl hm0.out (fun uu hu => by have e0 := (kcell hu gv (q * 7) lg4).trans y0; have e1 := (kcell hu gv (q * 7 + 1) lg4).trans y1; have e2 := (kcell hu gv (q * 7 + 2) lg4).trans y2; have e3 := (kcell hu gv (q * 7 + 3) lg4).trans y3; have e4 := (kcell hu gv (q * 7 + 4) lg4).trans y4; have e5 := (kcell hu gv (q * 7 + 5) lg4).trans y5; have e6 := (kcell hu gv (q * 7 + 6) lg4).trans y6; go_simp) ?_
         try go_simp
         refine tkS (i := 5) (v := Value.agg #[.int .i64 nd.op, .int .i64 nd.vr, .int .i64 nd.a, .int .i64 nd.b, .int .i64 nd.bw, .slice a1 nw c1, .slice a2 nk c2]) rfl hm0.out (fun uu hu => by have e0 := (kcell hu ν 0 ln0).trans n0; have e1 := (kcell hu ν 1 ln0).trans n1; have e2 := (kcell hu ν 2 ln0).trans n2; have e3 := (kcell hu ν 3 ln0).trans n3; have e4 := (kcell hu ν 4 ln0).trans n4; have e5 := (kcell hu ν 5 ln0).trans n5; have e6 := (kcell hu ν 6 ln0).trans n6; go_simp) ?_
         try go_simp
         refine rdX (rs := [6]) (cnB rfl (fun K hK => ?_) AllX.nil)
         go_simp
         refine Calls.mono (HSN.out _ hm0.out) ?_
         rintro e m1 ⟨rfl, hb⟩
         have hm1 : Hid (Below wr.heap.size wr m1) := hm0.out.trans (hb.mono hm0.out.size)
         refine hK _ _ hm1.out ?_
         clear hK K hb
         try go_simp
         refine wpAnyX_done (by kernel_rfl) ?_ _
         skip
         have HM5 := kide (HM.out.later hm1.out)
         have HX5 := kide (HX.out.later hm1.out)
         have HW5 := kide (HW1.out.later hm1.out)
         have HI5 := kide (HI1.out.later hm1.out)
         go_wp2_with fail
         go_roundw
         case rel => exact ⟨q + 1, by omega, by go_num, HM5.out, HX5.out, HW5.out, HI5.out, .inl ⟨rfl, HNO2.out⟩⟩
         case measure => simp [intOf]; omega
       ·have hqn : q = st1.length := by have := HLL.out; have := HLN.out; omega
        have HNF : Hid (fndT st1 md = none) := fndT_not fun h9 => by
         obtain ⟨j, hj⟩ := List.mem_iff_getElem?.1 h9
         exact HNO.out j (by have := (List.getElem?_eq_some_iff.1 hj).1; omega) hj
        have HS2 : Hid (shTo ns (k + 1) = (st1 ++ [md], to ++ [(ln : Int)])) := by
         show _ = _
         rw [HST.out]
         unfold shStep
         simp only []
         rw [HMD.out, HNF.out]
         simp only []
         rw [← HLL.out, HLN.out]
        have n0 := HX.out.cell 0
        have n1 := HX.out.cell 1
        have n2 := HX.out.cell 2
        have n3 := HX.out.cell 3
        have n4 := HX.out.cell 4
        have n5 := HX.out.cell 5
        have n6 := HX.out.cell 6
        simp at n0 n1 n2 n3 n4 n5 n6
        have zf := HM.out.bo.froz 0
        have hbt : Below wr.heap.size wr (wr.alloc (Obj.cells #[.int .i64 nd.op, .int .i64 nd.vr, .int .i64 nd.a, .int .i64 nd.b, .int .i64 nd.bw, .slice a1 nw c1, .slice a2 nk c2] 67)) := blA _ _
        have XT := kide (Bz.new wr #[.int .i64 nd.op, .int .i64 nd.vr, .int .i64 nd.a, .int .i64 nd.b, .int .i64 nd.bw, .slice a1 nw c1, .slice a2 nk c2] 67)
        have HTA : Hid (ThAt (wr.alloc (Obj.cells #[.int .i64 nd.op, .int .i64 nd.vr, .int .i64 nd.a, .int .i64 nd.b, .int .i64 nd.bw, .slice a1 nw c1, .slice a2 nk c2] 67)) wr.heap.size 0 (Tg.hd ⟨⟨nd.op, nd.vr, nd.a, nd.b, nd.bw, nd.ws, ks2⟩, a1, c1, a2, c2⟩)) := by
         simp only [Tg.hd, ThAt, HNW.out, HK2.out]
         exact ⟨XT.out.cell 0, XT.out.cell 1, XT.out.cell 2, XT.out.cell 3, XT.out.cell 4, XT.out.cell 5, XT.out.cell 6⟩
        have HBT := kide hbt
        have HOT := kide (HM.out.later hbt).ts.row
        have HWT := kide (HW1.out.later hbt)
        have HIT := kide (HI1.out.later hbt)
        have hszt : b0 + 2 ≤ (wr.alloc (Obj.cells #[.int .i64 nd.op, .int .i64 nd.vr, .int .i64 nd.a, .int .i64 nd.b, .int .i64 nd.bw, .slice a1 nw c1, .slice a2 nk c2] 67)).heap.size := (HM.out.later hbt).sz
        clear hqn hbt
        go_wp2_with (at_builtin; refine wpList_appT7 rfl _ _ rfl (b0 + 2) (.slice va ln vc) l ⟨⟨nd.op, nd.vr, nd.a, nd.b, nd.bw, nd.ws, ks2⟩, a1, c1, a2, c2⟩ (by first | rfl | simp [Act.eval]) HOT.out wr.heap.size 1 (by first | rfl | simp [Act.eval]) HTA.out (by rw [HLN.out]; omega) hszt ?_)
        intro g5 cap5 w5 ho5 hg5 hat5
        rw [HLN.out] at ho5 ⊢
        have MP := kide (HM.out.push HBT.out hg5 ho5 HWT.out HIT.out HLB.out HTB.out HBN.out (by have := HB0.out; omega))
        have hbo5 : Bz w5 (b0 + 1) #[.slice va ln vc] 30 := (hg5.block (b0 + 1) (HM.out.later HBT.out).bo.lt (fun e => by have := (HOT.out.lt e.symm).1; omega)).trans (HM.out.later HBT.out).bo
        have e5 := hbo5.cell 0
        have f5 := hbo5.froz 0
        simp at e5
        have hb6 : Below (w5.setCell ⟨b0 + 1, 0, none⟩ (Value.slice (some ⟨g5, 0, none⟩) (ln + 1) cap5)).heap.size (w5.setCell ⟨b0 + 1, 0, none⟩ (Value.slice (some ⟨g5, 0, none⟩) (ln + 1) cap5)) ((w5.setCell ⟨b0 + 1, 0, none⟩ (Value.slice (some ⟨g5, 0, none⟩) (ln + 1) cap5)).alloc (Obj.cells #[.int .i64 (ln : Int)] 2)) := blA _ _
        have HB6 := kide hb6
        have O6 := kide (MP.out.later hb6).ot
        have XN6 := kide (Bz.new (w5.setCell ⟨b0 + 1, 0, none⟩ (Value.slice (some ⟨g5, 0, none⟩) (ln + 1) cap5)) #[.int .i64 (ln : Int)] 2)
        have Z6 : Hid (b0 + 2 ≤ ((w5.setCell ⟨b0 + 1, 0, none⟩ (Value.slice (some ⟨g5, 0, none⟩) (ln + 1) cap5)).alloc (Obj.cells #[.int .i64 (ln : Int)] 2)).heap.size) := (MP.out.later hb6).sz
        have hz6 : (w5.setCell ⟨b0 + 1, 0, none⟩ (Value.slice (some ⟨g5, 0, none⟩) (ln + 1) cap5)).heap.size = w5.heap.size := by simp
        rw [hz6] at XN6
        have HZ6 := kide hz6
        simp only [] at O6
        clear hb6 hbo5 ho5 hg5 hat5 HOT HTA HBT HWT HIT XT n0 n1 n2 n3 n4 n5 n6 zo zf hszt HM HX HW1 HI1 hz6
        go_wp2_with (at_builtin; refine wpList_appI rfl _ _ rfl (b0 + 2) u5 to (ln : Int) (by first | rfl | simp [Act.eval]) O6.out w5.heap.size 1 (by first | rfl | simp [Act.eval]) (XN6.out.cell 0) (by rw [HTO.out]; omega) Z6.out ?_)
        intro g7 c7 w7 ho7 hg7 hat7
        have M7 := kide (MP.out.told HB6.out hg7 ho7 (hat7.imp id (fun h => by rw [h]; simp)) (by have := HB0.out; omega))
        try simp only [] at M7
        rw [← HMV.out, ← HS2.out] at M7
        clear ho7 hg7 hat7 O6 XN6 Z6 MP HB6 e5 f5
        go_wp2_with fail
        go_roundw
        case rel => exact ⟨k + 1, _, _, by omega, by go_num, M7.out⟩
        case measure => simp [intOf]; omega
      ·have HS2 : Hid (shTo ns (k + 1) = (st1, to ++ [(f : Int)])) := by
        show _ = _
        rw [HST.out]
        unfold shStep
        simp only []
        rw [HMD.out, hff]
       have hf1000 : f ≤ 10000 := by omega
       have hb6 : Below wr.heap.size wr (wr.alloc (Obj.cells #[.int .i64 (f : Int)] 2)) := blA _ _
       have HB6 := kide hb6
       have O6 := kide (HM.out.later hb6).ot
       have XN6 := kide (Bz.new wr #[.int .i64 (f : Int)] 2)
       have Z6 := kide (HM.out.later hb6).sz
       have hf0 : ¬ (f : Int) < 0 := by omega
       simp only [] at O6
       clear hb6 hff hfq HX HW1 HI1
       by_cases hql : q < ln
       ·have i4 : (q : Int) < (ln : Int) := by omega
        go_wp2_with (at_builtin; refine wpList_appI rfl _ _ rfl (b0 + 2) u5 to (f : Int) (by first | rfl | simp [Act.eval]) O6.out wr.heap.size 1 (by first | rfl | simp [Act.eval]) (XN6.out.cell 0) (by rw [HTO.out]; omega) Z6.out ?_)
        intro g7 c7 w7 ho7 hg7 hat7
        have M7 := kide (HM.out.told HB6.out hg7 ho7 (hat7.imp id (fun h => by rw [h]; simp)) (by have := HB0.out; omega))
        rw [← HS2.out] at M7
        clear ho7 hg7 hat7 O6 XN6 Z6 HB6 zo HM
        go_wp2_with fail
        go_roundw
        case rel => exact ⟨k + 1, _, _, by omega, by go_num, M7.out⟩
        case measure => simp [intOf]; omega
       ·go_wp2_with (at_builtin; refine wpList_appI rfl _ _ rfl (b0 + 2) u5 to (f : Int) (by first | rfl | simp [Act.eval]) O6.out wr.heap.size 1 (by first | rfl | simp [Act.eval]) (XN6.out.cell 0) (by rw [HTO.out]; omega) Z6.out ?_)
        intro g7 c7 w7 ho7 hg7 hat7
        have M7 := kide (HM.out.told HB6.out hg7 ho7 (hat7.imp id (fun h => by rw [h]; simp)) (by have := HB0.out; omega))
        rw [← HS2.out] at M7
        clear ho7 hg7 hat7 O6 XN6 Z6 HB6 zo HM
        go_wp2_with fail
        go_roundw
        case rel => exact ⟨k + 1, _, _, by omega, by go_num, M7.out⟩
        case measure => simp [intOf]; omega
  ·have hkn : k = ns.length := by rw [HNL.out]; omega
   rw [hkn] at HM
   obtain ⟨va, vc, rfl⟩ := HM.out.ts.form
   obtain ⟨ln, hln⟩ : ∃ ln, l.length = ln := ⟨_, rfl⟩
   rw [hln] at HM
   have zo := HM.out.bo.cell 0
   have zr := HM.out.br.cell 0
   have zf := HM.out.br.froz 0
   simp at zo zr
   have HBR := kide HM.out.br
   have hts : Ts (wr.setCell ⟨b0, 0, none⟩ (Value.slice va ln vc)) (b0 + 2) (.slice va ln vc) l := ⟨HM.out.ts.row.move fun b hb' => heap_setCell_other _ _ _ _ (fun e => by have := (HM.out.ts.row.lt hb').1; simp only [] at e; omega), fun x hx => nw_set (HM.out.ts.wn x hx) HBR.out (by decide) 0 _, fun x hx => ni_set (HM.out.ts.kn x hx) HBR.out (by decide) 0 _, HM.out.ts.wd, HM.out.ts.kd⟩
   have hot : OI (wr.setCell ⟨b0, 0, none⟩ (Value.slice va ln vc)) (b0 + 2) u5 (shTo ns ns.length).2 := HM.out.ot.move fun b hb' => heap_setCell_other _ _ _ _ (fun e => by have := (HM.out.ot.lt hb').1; simp only [] at e; omega)
   have hbl : Below w.heap.size w (wr.setCell ⟨b0, 0, none⟩ (Value.slice va ln vc)) := HM.out.bl.setCell (by have := HB0.out; simp only []; omega) _
   have y0 : (wr.setCell ⟨b0, 0, none⟩ (Value.slice va ln vc)).cell? ⟨b0, 0, none⟩ = some (Value.slice va ln vc) := (HBR.out.set 0 (Value.slice va ln vc)).cell 0
   have HTS := kide hts
   have HOT := kide hot
   have HBL := kide hbl
   have HE := kide HM.out.eq
   have Y0 := kide y0
   clear hm hkn hts hot hbl hln y0
   go_wp2_with fail
   have y0 := Y0.out
   generalize wr.setCell ⟨b0, 0, none⟩ (Value.slice va ln vc) = wf at *
   refine bodyPost_ret (v := .tuple #[.agg #[.slice va ln vc], u5]) (by simp [results, Tryz.results33, go_sem, y0]) rfl ?_
   refine ⟨.slice va ln vc, l, u5, rfl, ⟨?_, fun x hx => (HTS.out.wn x hx).mono (by have := HB0.out; omega), fun x hx => (HTS.out.kn x hx).mono (by have := HB0.out; omega), HTS.out.wd, HTS.out.kd⟩, HE.out, ?_, HBL.out⟩
   ·refine ⟨HTS.out.row.1, ?_⟩
    rcases HTS.out.row.2 with h0 | ⟨g, cap, cur, e, hg, r⟩
    ·exact .inl h0
    ·exact .inr ⟨g, cap, cur, e, by have := HB0.out; omega, r⟩
   ·refine ⟨HOT.out.1, ?_⟩
    rcases HOT.out.2 with h0 | ⟨g, cap, cur, e, hg, r⟩
    ·exact .inl h0
    ·exact .inr ⟨g, cap, cur, e, by have := HB0.out; omega, r⟩

def NdO (w : World) (x : Tg) : Prop := Rd w x.wa x.ct.ws ∧ RdI w x.ka x.ct.ks
structure NdN (wr : World) (B H : Nat) (tv : Value) (x : Tg) : Prop where
 wn : Nw wr B x.wa x.ct.ws
 kn : Ni wr B x.ka x.ct.ks
 wh : ∀ p, x.wa = some p → p.block < H
 kh : ∀ p, x.ka = some p → p.block < H
 dj : ∀ p, x.ka = some p → tv.ownBlock ≠ some p.block

structure RpM (w wr : World) (B H : Nat) (v tv : Value) (l : List Tg) (st : List Tc × List Int) : Prop where
 row : OT wr B v l
 nd : ∀ x ∈ l, NdO w x ∨ NdN wr B H tv x
 sn : Sn l
 eq : l.map Tg.ct = st.1
 ot : OI wr B tv st.2
 bl : Below w.heap.size w wr
 bB : w.heap.size ≤ B
 BH : B ≤ H
 hH : H ≤ wr.heap.size
 vH : ∀ b, v.ownBlock = some b → b < H
 tH : ∀ b, tv.ownBlock = some b → b < H
theorem nw_ltB {w : World} {lo : Nat} {a : Option Addr} {xs : List Nat} (h : Nw w lo a xs) {p : Addr} (hp : a = some p) : lo ≤ p.block ∧ p.block < w.heap.size := by
 rcases h with ⟨h1, h2⟩ | ⟨g, cur, h1, h2, h3, h4⟩
 ·obtain ⟨k1, -, cur, k2⟩ := h2 p hp
  exact ⟨k1, lt_of_block k2⟩
 ·rw [h1] at hp
  cases hp
  exact ⟨h2, lt_of_block h3⟩
theorem nw_blk {w w' : World} {lo : Nat} {a : Option Addr} {xs : List Nat} (h : Nw w lo a xs) (hk : ∀ p, a = some p → w'.heap[p.block]? = w.heap[p.block]?) : Nw w' lo a xs := by
 rcases h with ⟨h1, h2⟩ | ⟨g, cur, h1, h2, h3, h4⟩
 ·refine .inl ⟨h1, fun x e => ?_⟩
  obtain ⟨q1, q2, cur, q3⟩ := h2 x e
  exact ⟨q1, q2, cur, (hk x e).trans q3⟩
 ·exact .inr ⟨g, cur, h1, h2, (hk _ h1).trans h3, h4⟩
theorem ni_blk {w w' : World} {lo : Nat} {a : Option Addr} {xs : List Int} (h : Ni w lo a xs) (hk : ∀ p, a = some p → w'.heap[p.block]? = w.heap[p.block]?) : Ni w' lo a xs := by
 rcases h with ⟨h1, h2⟩ | ⟨g, cur, h1, h2, h3, h4⟩
 ·refine .inl ⟨h1, fun x e => ?_⟩
  obtain ⟨q1, q2, cur, q3⟩ := h2 x e
  exact ⟨q1, q2, cur, (hk x e).trans q3⟩
 ·exact .inr ⟨g, cur, h1, h2, (hk _ h1).trans h3, h4⟩
theorem nw_typed {w : World} {lo : Nat} {a : Option Addr} {xs : List Nat} (h : Nw w lo a xs) {p : Addr} (hp : a = some p) : ∃ cur, w.heap[p.block]? = some (.cells cur 118 (0, 0)) := by
 rcases h with ⟨h1, h2⟩ | ⟨g, cur, h1, h2, h3, h4⟩
 ·obtain ⟨-, -, cur, k2⟩ := h2 p hp
  exact ⟨cur, k2⟩
 ·rw [h1] at hp
  cases hp
  exact ⟨cur, h3⟩
theorem ni_typed {w : World} {lo : Nat} {a : Option Addr} {xs : List Int} (h : Ni w lo a xs) {p : Addr} (hp : a = some p) : ∃ cur, w.heap[p.block]? = some (.cells cur 2 (0, 0)) := by
 rcases h with ⟨h1, h2⟩ | ⟨g, cur, h1, h2, h3, h4⟩
 ·obtain ⟨-, -, cur, k2⟩ := h2 p hp
  exact ⟨cur, k2⟩
 ·rw [h1] at hp
  cases hp
  exact ⟨cur, h3⟩
theorem RpM.later {w wr wr' : World} {B H : Nat} {v tv : Value} {l : List Tg} {st : List Tc × List Int} (h : RpM w wr B H v tv l st) (hb : Below wr.heap.size wr wr') : RpM w wr' B H v tv l st where
 row := h.row.later hb
 nd := fun x hx => (h.nd x hx).imp id fun n => ⟨n.wn.later hb, n.kn.later hb, n.wh, n.kh, n.dj⟩
 sn := h.sn
 eq := h.eq
 ot := h.ot.later hb
 bl := h.bl.trans (hb.mono h.bl.size)
 bB := h.bB
 BH := h.BH
 hH := Nat.le_trans h.hH hb.size
 vH := h.vH
 tH := h.tH
theorem RpM.now {w wr : World} {B H : Nat} {v tv : Value} {l : List Tg} {st : List Tc × List Int} (h : RpM w wr B H v tv l st) : RpM w wr B wr.heap.size v tv l st where
 row := h.row
 nd := fun x hx => (h.nd x hx).imp id fun n => ⟨n.wn, n.kn, fun p hp => Nat.lt_of_lt_of_le (n.wh p hp) h.hH, fun p hp => Nat.lt_of_lt_of_le (n.kh p hp) h.hH, n.dj⟩
 sn := h.sn
 eq := h.eq
 ot := h.ot
 bl := h.bl
 bB := h.bB
 BH := Nat.le_trans h.BH h.hH
 hH := Nat.le_refl _
 vH := fun b hb => Nat.lt_of_lt_of_le (h.vH b hb) h.hH
 tH := fun b hb => Nat.lt_of_lt_of_le (h.tH b hb) h.hH
theorem RpM.push {w wt w5 : World} {B H : Nat} {v v' tv : Value} {l : List Tg} {st1 : List Tc} {to : List Int} {y : Tg} (h : RpM w wt B H v tv l (st1, to)) (hg : wt.grownBy w5 v.ownBlock) (ho : OT w5 B v' (l ++ [y])) (hy : Nw wt B y.wa y.ct.ws) (hk : Ni wt B y.ka y.ct.ks) (hdj : ∀ p, y.ka = some p → tv.ownBlock ≠ some p.block) (hs : (y.wa = none → y.wc = 0) ∧ (y.ka = none → y.kc = 0)) : RpM w w5 B w5.heap.size v' tv (l ++ [y]) (st1 ++ [y.ct], to) where
 row := ho
 nd := fun x hx => by
  have keep : ∀ (b : Nat) (c : Array Value) (t : TypeId), t ≠ 67 → wt.heap[b]? = some (.cells c t (0, 0)) → w5.heap[b]? = wt.heap[b]? := fun b c t ht hc => hg.block b (lt_of_block hc) (fun e => by
   obtain ⟨c2, k2⟩ := h.row.typed e.symm
   rw [hc] at k2
   cases k2
   exact ht rfl)
  rcases List.mem_append.1 hx with hx | hx
  ·refine (h.nd x hx).imp id fun n => ⟨nw_blk n.wn fun p hp => ?_, ni_blk n.kn fun p hp => ?_, fun p hp => ?_, fun p hp => ?_, n.dj⟩
   ·obtain ⟨c, hc⟩ := nw_typed n.wn hp
    exact keep _ c _ (by decide) hc
   ·obtain ⟨c, hc⟩ := ni_typed n.kn hp
    exact keep _ c _ (by decide) hc
   ·have := n.wh p hp; have := h.hH; have := hg.size; omega
   ·have := n.kh p hp; have := h.hH; have := hg.size; omega
  ·simp at hx
   subst hx
   refine .inr ⟨nw_blk hy fun p hp => ?_, ni_blk hk fun p hp => ?_, fun p hp => ?_, fun p hp => ?_, hdj⟩
   ·obtain ⟨c, hc⟩ := nw_typed hy hp
    exact keep _ c _ (by decide) hc
   ·obtain ⟨c, hc⟩ := ni_typed hk hp
    exact keep _ c _ (by decide) hc
   ·have := (nw_ltB hy hp).2; have := hg.size; omega
   ·have := (ni_lt hk hp).2; have := hg.size; omega
 sn := fun x hx => by
  rcases List.mem_append.1 hx with hx | hx
  ·exact h.sn x hx
  ·simp at hx
   subst hx
   exact hs
 eq := by
  have h9 := h.eq
  simp only [] at h9 ⊢
  rw [List.map_append, h9]
  rfl
 ot := h.ot.move fun b hb => hg.block b (h.ot.lt hb).2 (fun e => by
  obtain ⟨c1, k1⟩ := h.ot.typed9 hb
  obtain ⟨c2, k2⟩ := h.row.typed e.symm
  rw [k1] at k2
  cases k2)
 bl := h.bl.grown hg h.bl.size (fun k e => by have := (h.row.lt e).1; have := h.bB; omega)
 bB := h.bB
 BH := Nat.le_trans h.BH (Nat.le_trans h.hH hg.size)
 hH := Nat.le_refl _
 vH := fun b hb => (ho.lt hb).2
 tH := fun b hb => by have := h.tH b hb; have := h.hH; have := hg.size; omega
theorem RpM.told {w wt w5 : World} {B H : Nat} {v tv tv' : Value} {l : List Tg} {st1 : List Tc} {to to' : List Int} (h : RpM w wt B H v tv l (st1, to)) (hg : wt.grownBy w5 tv.ownBlock) (ho : OI w5 B tv' to') (hat : tv'.ownBlock = tv.ownBlock ∨ tv'.ownBlock = some wt.heap.size) : RpM w w5 B w5.heap.size v tv' l (st1, to') where
 row := h.row.move fun b hb => hg.block b (h.row.lt hb).2 (fun e => by
  obtain ⟨c1, k1⟩ := h.row.typed hb
  obtain ⟨c2, k2⟩ := h.ot.typed9 e.symm
  rw [k1] at k2
  cases k2)
 nd := fun x hx => (h.nd x hx).imp id fun n => ⟨nw_blk n.wn fun p hp => hg.block _ (nw_ltB n.wn hp).2 (fun e => by
   obtain ⟨c1, k1⟩ := nw_typed n.wn hp
   obtain ⟨c2, k2⟩ := h.ot.typed9 e.symm
   rw [k1] at k2
   cases k2), ni_blk n.kn fun p hp => hg.block _ (ni_lt n.kn hp).2 (fun e => n.dj p hp e.symm), fun p hp => by have := n.wh p hp; have := h.hH; have := hg.size; omega, fun p hp => by have := n.kh p hp; have := h.hH; have := hg.size; omega, fun p hp e => by
   rcases hat with h8 | h8
   ·exact n.dj p hp (by rw [← h8]; exact e)
   ·rw [h8] at e
    have := n.kh p hp
    have := h.hH
    have e9 := Option.some.inj e
    omega⟩
 sn := h.sn
 eq := h.eq
 ot := ho
 bl := h.bl.grown hg h.bl.size (fun k e => by have := (h.ot.lt e).1; have := h.bB; omega)
 bB := h.bB
 BH := Nat.le_trans h.BH (Nat.le_trans h.hH hg.size)
 hH := Nat.le_refl _
 vH := fun b hb => by have := h.vH b hb; have := h.hH; have := hg.size; omega
 tH := fun b hb => (ho.lt hb).2
theorem RpM.rd {w wr : World} {B H : Nat} {v tv : Value} {l : List Tg} {st : List Tc × List Int} (h : RpM w wr B H v tv l st) (hl : l.length ≤ 1048576) (hok : ∀ n ∈ st.1, okT n) : ∃ a c, v = .slice a l.length c ∧ RdT wr a l := by
 obtain ⟨a, c, e⟩ := h.row.form
 refine ⟨a, c, e, hl, ?_⟩
 by_cases h0 : l = []
 ·exact .inl h0
 ·right
  obtain ⟨x0, hx0⟩ : ∃ x0, l[0]? = some x0 := ⟨l[0]'(List.length_pos_iff.2 h0), List.getElem?_eq_getElem _⟩
  obtain ⟨g0, c0, e0, -⟩ := h.row.at hx0
  rw [e] at e0
  injection e0 with e1 e2 e3
  subst e1
  refine ⟨g0, 0, rfl, fun i x hi => ?_⟩
  obtain ⟨g, c1, e4, ht⟩ := h.row.at hi
  rw [e] at e4
  injection e4 with e5 e6 e7
  cases e5
  rw [Nat.zero_add]
  have hm := List.mem_of_getElem? hi
  obtain ⟨k1, k2, k3, k4, k5, k6, k7, k8, k9⟩ := hok x.ct (by rw [← h.eq]; exact List.mem_map_of_mem hm)
  refine ⟨ht, ?_, ?_, k1, k2, k3, k4, k5⟩
  ·rcases h.nd x hm with n | n
   ·exact n.1.later h.bl
   ·exact n.wn.rd k6 k7
  ·rcases h.nd x hm with n | n
   ·exact n.2.later h.bl
   ·exact n.kn.rd k8 k9

set_option maxHeartbeats 1000000 in
theorem l5Seg_any (s : Sc) (a da : Option Addr) (c dc : Nat) (ds : List Dc) (w : World) (hr : Rd w a s.ws) (hd : RdD w da ds) (hD : dclR ds = true) :
  Calls Tryz.prog 54 #[.slice da ds.length dc, .agg #[.int .i64 s.v, .int .i64 s.lo, .int .i64 s.wd, .int .i64 s.bw, .slice a s.ws.length c]] w fun e w' => e = .returned (.bool (sgOk ds s)) ∧ Below w.heap.size w w' := by
 have hb0 : Below w.heap.size w (w.alloc (Obj.cells #[.int .i64 s.v, .int .i64 s.lo, .int .i64 s.wd, .int .i64 s.bw, .slice a s.ws.length c] 73)) := blA _ _
 have hl1 := hd.1
 have hl2 := hr.1
 by_cases hv : s.v = -1
 ·rw [sgOk_const hv]
  have HOK := kide (fun u (hu : Below w.heap.size w u) => specOk_any s.bw a c s.ws u (hr.later hu))
  obtain ⟨v, lo, wd, bw, ws⟩ := s
  simp only [] at hv hb0 HOK hl2 ⊢
  subst hv
  have B0 := kide hb0
  clear hr hd hb0
  by_cases h1 : lo = 0
  ·subst h1
   generalize rightB bw ws = r at *
   cases r with
   | true =>
    go_enter Tryz.func54, Tryz.ntmps54
    go_wp2_with fail
    refine Calls.mono (HOK.out _ B0.out) ?_
    rintro e w1 ⟨rfl, hb1⟩
    have k3 := kcell hb1 w.heap.size 3 (by simp)
    have k2 := kcell hb1 w.heap.size 2 (by simp)
    have B1 := kide (B0.out.trans (hb1.mono B0.out.size))
    simp at k2 k3
    clear hb1
    go_wp2_with fail
    go_ret
    exact ⟨ret_bool (by rw [Bool.eq_iff_iff]; simp; exact eq_comm), B1.out⟩
   | false =>
    go_enter Tryz.func54, Tryz.ntmps54
    go_wp2_with fail
    refine Calls.mono (HOK.out _ B0.out) ?_
    rintro e w1 ⟨rfl, hb1⟩
    go_wp2_with fail
    go_ret
    exact ⟨ret_bool (by simp), B0.out.trans (hb1.mono B0.out.size)⟩
  ·have hww : (lo == 0) = false := by simp [h1]
   have hR : (decide (lo = 0) && decide (wd = bw) && rightB bw ws) = false := by simp [h1]
   rw [hR]
   clear hR h1
   go_enter Tryz.func54, Tryz.ntmps54
   go_wp2_with fail
   go_ret
   exact ⟨rfl, B0.out⟩
 ·have HNB := kide (fun u => l3NoBits_any s.bw a s.ws.length c u hl2)
  have HI0 := kide (fun u => l1In_any s.v 0 ((ds.length : Int) - 1) u)
  by_cases hin : 0 ≤ s.v ∧ s.v ≤ (ds.length : Int) - 1
  ·rw [decide_eq_true hin] at HI0
   by_cases hbn : s.bw = 0 ∧ s.ws.length = 0
   ·obtain ⟨k, hk⟩ : ∃ k : Nat, s.v = (k : Int) := ⟨s.v.toNat, by omega⟩
    have hkl : k < ds.length := by omega
    obtain ⟨⟨t, y⟩, gd⟩ : ∃ d, ds[k]? = some d := ⟨ds[k], List.getElem?_eq_getElem hkl⟩
    rw [sgOk_in hk gd hbn.1 hbn.2]
    obtain ⟨hy1, hy2⟩ := dclR_wd hD gd
    obtain ⟨-, -, h | ⟨b1, o1, rfl, hc1⟩⟩ := hd
    ·subst h; simp at hkl
    obtain ⟨-, q1⟩ := hc1 k _ gd
    have lb1 : b1 < w.heap.size := block_lt_of_cell q1
    have hnb : (decide (s.bw = 0) && decide (s.ws.length = 0)) = true := by simp [hbn.1]; exact List.eq_nil_of_length_eq_zero hbn.2
    rw [hnb] at HNB
    obtain ⟨v, lo, wd, bw, ws⟩ := s
    simp only [] at hv hb0 hl2 hk hy1 hy2 q1 HNB HI0 ⊢
    subst hk
    have B0 := kide hb0
    have hvv : ((k : Int) == -1) = false := by simp
    have hki : (k : Int) < (ds.length : Int) := by omega
    have HL := kide (fun u => l1In_any lo 0 (y - 1) u)
    clear hr hb0 hv hc1 gd hD hnb hin hbn
    by_cases hlo : 0 ≤ lo ∧ lo ≤ y - 1
    ·have HWD := kide (fun u => l1In_any wd 1 (y - lo) u)
     rw [decide_eq_true hlo] at HL
     have hR : (decide (1 ≤ wd) && decide (0 ≤ lo) && decide (lo + wd ≤ y)) = decide (1 ≤ wd ∧ wd ≤ y - lo) := by rw [Bool.eq_iff_iff]; simp; omega
     rw [hR]
     obtain ⟨hlo1, hlo2⟩ := hlo
     clear hR
     generalize decide (1 ≤ wd ∧ wd ≤ y - lo) = r at *
     go_enter Tryz.func54, Tryz.ntmps54
     go_wp2_with fail
     refine Calls.mono (HI0.out _) ?_
     rintro e wx ⟨rfl, rfl⟩
     go_wp2_with fail
     refine Calls.mono (HNB.out _) ?_
     rintro e w1 ⟨rfl, hb1⟩
     have k0 := kcell hb1 w.heap.size 0 (by simp)
     have k1 := kcell hb1 w.heap.size 1 (by simp)
     have k2 := kcell hb1 w.heap.size 2 (by simp)
     have k5 := (kcell hb1 b1 (o1 + k * 2 + 1) (by simp; omega)).trans ((kcell B0.out b1 (o1 + k * 2 + 1) lb1).trans q1)
     have B1 := kide (B0.out.trans (hb1.mono B0.out.size))
     simp at k0 k1 k2
     clear hb1 q1
     go_wp2_with fail
     refine Calls.mono (HL.out _) ?_
     rintro e wx ⟨rfl, rfl⟩
     go_wp2_with fail
     refine Calls.mono (HWD.out _) ?_
     rintro e wx ⟨rfl, rfl⟩
     go_wp2_with fail
     go_ret
     exact ⟨rfl, B1.out⟩
    ·rw [decide_eq_false hlo] at HL
     have hR : (decide (1 ≤ wd) && decide (0 ≤ lo) && decide (lo + wd ≤ y)) = false := by simp; omega
     rw [hR]
     clear hR hlo
     go_enter Tryz.func54, Tryz.ntmps54
     go_wp2_with fail
     refine Calls.mono (HI0.out _) ?_
     rintro e wx ⟨rfl, rfl⟩
     go_wp2_with fail
     refine Calls.mono (HNB.out _) ?_
     rintro e w1 ⟨rfl, hb1⟩
     have k0 := kcell hb1 w.heap.size 0 (by simp)
     have k1 := kcell hb1 w.heap.size 1 (by simp)
     have k2 := kcell hb1 w.heap.size 2 (by simp)
     have k5 := (kcell hb1 b1 (o1 + k * 2 + 1) (by simp; omega)).trans ((kcell B0.out b1 (o1 + k * 2 + 1) lb1).trans q1)
     have B1 := kide (B0.out.trans (hb1.mono B0.out.size))
     simp at k0 k1 k2
     clear hb1 q1
     go_wp2_with fail
     refine Calls.mono (HL.out _) ?_
     rintro e wx ⟨rfl, rfl⟩
     go_wp2_with fail
     go_ret
     exact ⟨rfl, B1.out⟩
   ·rw [sgOk_out hv (by
     by_cases h : s.bw = 0
     ·exact .inr (.inr (.inr fun h' => hbn ⟨h, h'⟩))
     ·exact .inr (.inr (.inl h)))]
    have hnb : (decide (s.bw = 0) && decide (s.ws.length = 0)) = false := by
     rw [Bool.eq_false_iff]
     intro h
     rw [Bool.and_eq_true, decide_eq_true_eq, decide_eq_true_eq] at h
     exact hbn h
    rw [hnb] at HNB
    obtain ⟨v, lo, wd, bw, ws⟩ := s
    simp only [] at hv hb0 hl2 HNB HI0 hin ⊢
    have B0 := kide hb0
    have hvv : (v == -1) = false := by simp [hv]
    clear hr hd hb0 hv hnb hbn
    go_enter Tryz.func54, Tryz.ntmps54
    go_wp2_with fail
    refine Calls.mono (HI0.out _) ?_
    rintro e wx ⟨rfl, rfl⟩
    go_wp2_with fail
    refine Calls.mono (HNB.out _) ?_
    rintro e w1 ⟨rfl, hb1⟩
    go_wp2_with fail
    go_ret
    exact ⟨rfl, B0.out.trans (hb1.mono B0.out.size)⟩
  ·rw [sgOk_out hv (by omega)]
   rw [decide_eq_false hin] at HI0
   obtain ⟨v, lo, wd, bw, ws⟩ := s
   simp only [] at hv hb0 hl2 HI0 ⊢
   have B0 := kide hb0
   have hvv : (v == -1) = false := by simp [hv]
   clear hr hd hb0 hv hin
   go_enter Tryz.func54, Tryz.ntmps54
   go_wp2_with fail
   refine Calls.mono (HI0.out _) ?_
   rintro e wx ⟨rfl, rfl⟩
   go_wp2_with fail
   go_ret
   exact ⟨rfl, B0.out⟩

set_option maxHeartbeats 1000000 in
theorem specFlat_any (a da : Option Addr) (c dc n : Nat) (ds : List Dc) (xs : List Sg) (w : World) (hd : RdD w da ds) (hr : RdS w a xs) (hn : xs.length = n) :
  Calls Tryz.prog 32 #[.slice da ds.length dc, .slice a n c] w fun e w' => e = .returned (.bool (flatR ds (xs.map Sg.ct))) ∧ Below w.heap.size w w' := by
 have HDC := kide (specDecls_any da dc ds w hd)
 have hl1 := hd.1
 have hl2 := hr.1
 rw [hn] at hl2
 rw [flatR_form]
 cases hD : dclR ds with
 | false =>
  rw [hD] at HDC
  clear hD
  go_enter Tryz.func32, Tryz.ntmps32
  go_wp2_with fail
  refine Calls.mono HDC.out ?_
  rintro e w1 ⟨rfl, hb1⟩
  go_wp2_with fail
  go_ret
  exact ⟨rfl, hb1⟩
 | true =>
  rw [hD] at HDC
  by_cases h1 : n < 1
  ·have hR : (true && formR ds (xs.map Sg.ct)) = false := by
    have : xs = [] := List.eq_nil_of_length_eq_zero (by omega)
    simp [formR, this]
   rw [hR]
   clear hR hD
   go_enter Tryz.func32, Tryz.ntmps32
   go_wp2_with fail
   refine Calls.mono HDC.out ?_
   rintro e w1 ⟨rfl, hb1⟩
   go_wp2_with fail
   go_ret
   exact ⟨rfl, hb1⟩
  by_cases h2 : 2000 < n
  ·have hR : (true && formR ds (xs.map Sg.ct)) = false := by
    have h : decide ((xs.map Sg.ct).length ≤ 2000) = false := decide_eq_false (by simp; omega)
    simp only [formR, h]; simp
   rw [hR]
   clear hR hD
   go_enter Tryz.func32, Tryz.ntmps32
   go_wp2_with fail
   refine Calls.mono HDC.out ?_
   rintro e w1 ⟨rfl, hb1⟩
   go_wp2_with fail
   go_ret
   exact ⟨rfl, hb1⟩
  generalize hZ : flAt ds (xs.map Sg.ct) 0 = Z
  have hR : (true && formR ds (xs.map Sg.ct)) = (Z && decide (sumS ((xs.map Sg.ct).take n) ≤ 4096)) := by
   have e1 : decide (1 ≤ (xs.map Sg.ct).length) = true := decide_eq_true (by simp; omega)
   have e2 : decide ((xs.map Sg.ct).length ≤ 2000) = true := decide_eq_true (by simp; omega)
   rw [List.take_of_length_le (by simp [hn])]
   simp only [formR, e1, e2, hZ, Bool.true_and]
  rw [hR]
  have HZ := kide hZ
  have HD := kide hd
  have HR := kide hr
  have HN := kide hn
  have HDCL := kide hD
  clear hZ hR hd hr hn hD
  go_enter Tryz.func32, Tryz.ntmps32
  go_wp2_with fail
  refine Calls.mono HDC.out ?_
  rintro e w1 ⟨rfl, hb1⟩
  have B1 := kide hb1
  clear hb1 HDC
  go_wp2_with fail
  go_loopw [5, 6] (fun q i wr => ∃ k : Nat, k ≤ n ∧ i = .int .i64 (k : Int) ∧ q = .int .i64 (sumS ((xs.map Sg.ct).take k)) ∧ 0 ≤ sumS ((xs.map Sg.ct).take k) ∧ sumS ((xs.map Sg.ct).take k) ≤ 4096 * (k : Int) ∧ flAt ds (xs.map Sg.ct) k = Z ∧ (∀ (i : Nat) (x : Sg), i < k → xs[i]? = some x → sgOk ds x.ct = true) ∧ Below w.heap.size w wr) (fun _ i _ => n - (intOf i).toNat)
  case atStart => exact ⟨0, Nat.zero_le _, rfl, by simp [sumS], by simp [sumS], by simp [sumS], HZ.out, fun i x h => by omega, B1.out⟩
  case round =>
   obtain ⟨k, hk, rfl, rfl, hq0, hq1, hz, hall, hbel⟩ := hrel
   have HB := kide hbel
   have HAL := kide hall
   by_cases hlt : k < n
   ·obtain ⟨-, h | ⟨b2, o2, rfl, hc2⟩⟩ := HR.out
    ·have := HN.out; subst h; simp at this; omega
    obtain ⟨⟨s, a1, c1⟩, gx⟩ : ∃ x, xs[k]? = some x := ⟨xs[k]'(by rw [HN.out]; exact hlt), List.getElem?_eq_getElem _⟩
    obtain ⟨⟨p0, p1, p2, p3, p4⟩, pr, -⟩ := (hc2 k _ gx).later hbel
    simp only [Sg.hd] at p0 p1 p2 p3 p4 pr
    have HOK := kide (l5Seg_any s a1 da c1 dc ds wr pr (HD.out.later hbel) HDCL.out)
    have GX := kide gx
    have gct : (xs.map Sg.ct)[k]? = some s := by rw [List.getElem?_map, gx]; rfl
    have hst := sumS_take gct
    have HST := kide hst
    have i0 : (k : Int) < (n : Int) := by omega
    have lb2 : b2 < wr.heap.size := block_lt_of_cell p0
    generalize sumS ((xs.map Sg.ct).take k) = Q at *
    cases hok : sgOk ds s with
    | false =>
     rw [hok] at HOK
     have HF : Hid (Z = false) := by
      show _ = _
      rw [← hz]
      cases k with
      | zero => rw [flAt_zero gct, hok]; rfl
      | succ k =>
       have hq : (xs.map Sg.ct)[k]? = some _ := List.getElem?_eq_getElem (by simp; have := HN.out; omega)
       rw [flAt_succ hq gct, hok]; rfl
     obtain ⟨v, lo, wd, bw, ws⟩ := s
     simp only [] at p0 p1 p2 p3 p4 HOK
     clear hc2 gx gct hz hall hbel HZ pr hok GX hst HST
     go_wp2_with fail
     refine Calls.mono HOK.out ?_
     rintro e w3 ⟨rfl, hb3⟩
     go_wp2_with fail
     go_ret
     exact ⟨ret_bool (by rw [HF.out]; rfl), HB.out.trans (hb3.mono HB.out.size)⟩
    | true =>
     rw [hok] at HOK
     have hbs := sgOk_bounds HDCL.out hok
     have HOKS := kide hok
     cases k with
     | zero =>
      rw [flAt_zero gct, hok, Bool.true_and] at hz
      have HZ1 := kide hz
      rw [Nat.zero_mul, Nat.add_zero] at p0 p1 p2 p3 p4
      obtain ⟨v, lo, wd, bw, ws⟩ := s
      simp only [] at p0 p1 p2 p3 p4 HOK hst hbs HST
      obtain ⟨hb1', hb2', -, -⟩ := hbs
      clear hc2 gx gct hz hall hbel HZ pr hok hst
      go_wp2_with fail
      refine Calls.mono HOK.out ?_
      rintro e w3 ⟨rfl, hb3⟩
      have x0 := (kcell hb3 b2 o2 lb2).trans p0
      have x1 := (kcell hb3 b2 (o2 + 1) lb2).trans p1
      have x2 := (kcell hb3 b2 (o2 + 2) lb2).trans p2
      have HB3 := kide (HB.out.trans (hb3.mono HB.out.size))
      clear hb3 p0 p1 p2 p3 p4
      go_wp2_with fail
      go_quiet (fail)
      go_wp2_with fail
      go_roundw
      case rel =>
       refine ⟨1, by omega, by go_num, by rw [HST.out], by rw [HST.out]; omega, by rw [HST.out]; omega, HZ1.out, fun i x hi hx => ?_, below_drewN HB3.out _⟩
       have : i = 0 := by omega
       subst this
       rw [GX.out] at hx
       cases hx
       exact HOKS.out
      case measure => simp [intOf]; omega
     | succ j =>
      obtain ⟨⟨s2, a2, cc2⟩, gx2⟩ : ∃ x, xs[j]? = some x := ⟨xs[j]'(by rw [HN.out]; omega), List.getElem?_eq_getElem _⟩
      obtain ⟨⟨q0, q1, q2, -⟩, -⟩ := (hc2 j _ gx2).later hbel
      simp only [Sg.hd] at q0 q1 q2
      have gct2 : (xs.map Sg.ct)[j]? = some s2 := by rw [List.getElem?_map, gx2]; rfl
      have hs2 := hall j _ (by omega) gx2
      simp only [] at hs2
      have hbd := sgOk_bounds HDCL.out hs2
      rw [flAt_succ gct2 gct, hok, Bool.true_and] at hz
      have HZ1 := kide hz
      have j1 : (j : Int) < (n : Int) := by omega
      have hwr1 : IntKind.i64.wrap (j : Int) = (j : Int) := kwrap (by omega)
      have hwr2 : IntKind.i64.wrap ((j : Int) + 1 - 1) = (j : Int) := (kwrap (by omega)).trans (by omega)
      obtain ⟨v, lo, wd, bw, ws⟩ := s
      obtain ⟨v2, lo2, wd2, bw2, ws2⟩ := s2
      simp only [oneB] at p0 p1 p2 p3 p4 q0 q1 q2 HOK HZ1 hbs hbd HST
      obtain ⟨hb1', hb2', hb3', hb4'⟩ := hbs
      obtain ⟨hb5, hb6, hb7, hb8⟩ := hbd
      have hwr4 : IntKind.i64.wrap (lo2 + wd2) = lo2 + wd2 := kwrap (by omega)
      clear hc2 gx gx2 gct gct2 hz hall hbel HZ pr hok hs2 hst
      go_wp2_with fail
      refine Calls.mono HOK.out ?_
      rintro e w3 ⟨rfl, hb3⟩
      have x0 := (kcell hb3 b2 (o2 + (j + 1) * 5) lb2).trans p0
      have x1 := (kcell hb3 b2 (o2 + (j + 1) * 5 + 1) lb2).trans p1
      have x2 := (kcell hb3 b2 (o2 + (j + 1) * 5 + 2) lb2).trans p2
      have y0 := (kcell hb3 b2 (o2 + j * 5) lb2).trans q0
      have y1 := (kcell hb3 b2 (o2 + j * 5 + 1) lb2).trans q1
      have y2 := (kcell hb3 b2 (o2 + j * 5 + 2) lb2).trans q2
      have HB3 := kide (HB.out.trans (hb3.mono HB.out.size))
      clear hb3 p0 p1 p2 p3 p4 q0 q1 q2
      by_cases hvv : v = v2
      ·have e1 : (v == v2) = true := by simp [hvv]
       by_cases hv1 : v = -1
       ·have e2 : (v == -1) = true := by simp [hv1]
        have HF : Hid (Z = false) := by have h := HZ1.out; simp [← hvv, hv1] at h; exact h
        clear hvv hv1
        go_wp2_with fail
        go_quiet (fail)
        go_wp2_with fail
        go_ret
        exact ⟨ret_bool (by rw [HF.out]; rfl), below_drewN HB3.out _⟩
       ·have e2 : (v == -1) = false := by simp [hv1]
        by_cases hlw : lo = lo2 + wd2
        ·have e3 : (lo == lo2 + wd2) = true := by simp [hlw]
         have HF : Hid (Z = false) := by have h := HZ1.out; simp [← hvv, hv1, ← hlw] at h; exact h
         clear hvv hv1 hlw
         go_wp2_with fail
         go_quiet (fail)
         go_wp2_with fail
         go_ret
         exact ⟨ret_bool (by rw [HF.out]; rfl), below_drewN HB3.out _⟩
        ·have e3 : (lo == lo2 + wd2) = false := by simp [hlw]
         have HF : Hid (flAt ds (xs.map Sg.ct) (j + 1 + 1) = Z) := by
          have h := HZ1.out
          have h5 : ¬ lo2 + wd2 = lo := fun h => hlw h.symm
          simp [← hvv, hv1, h5] at h; exact h
         clear hvv hv1 hlw
         go_wp2_with fail
         go_quiet (fail)
         go_wp2_with fail
         go_roundw
         case rel =>
          refine ⟨j + 1 + 1, by omega, by go_num, by rw [HST.out], by rw [HST.out]; omega, by rw [HST.out]; omega, HF.out, fun i x hi hx => ?_, below_drewN HB3.out _⟩
          by_cases hij : i = j + 1
          ·subst hij
           rw [GX.out] at hx
           cases hx
           exact HOKS.out
          ·exact HAL.out i x (by omega) hx
         case measure => simp [intOf]; omega
      ·have e1 : (v == v2) = false := by simp [hvv]
       have HF : Hid (flAt ds (xs.map Sg.ct) (j + 1 + 1) = Z) := by
        have h := HZ1.out
        have h5 : ¬ v2 = v := fun h => hvv h.symm
        simp [h5] at h; exact h
       clear hvv
       go_wp2_with fail
       go_quiet (fail)
       go_wp2_with fail
       go_roundw
       case rel =>
        refine ⟨j + 1 + 1, by omega, by go_num, by rw [HST.out], by rw [HST.out]; omega, by rw [HST.out]; omega, HF.out, fun i x hi hx => ?_, below_drewN HB3.out _⟩
        by_cases hij : i = j + 1
        ·subst hij
         rw [GX.out] at hx
         cases hx
         exact HOKS.out
        ·exact HAL.out i x (by omega) hx
       case measure => simp [intOf]; omega
   ·have e : k = n := by omega
    have hZt : Z = true := by
     rw [← hz, e, ← HN.out]
     have := flAt_end (ds := ds) (fs := xs.map Sg.ct)
     rwa [List.length_map] at this
    subst hZt
    subst e
    generalize hQ : sumS ((xs.map Sg.ct).take k) = Q at *
    have HQ := kide hQ
    clear hz hall hbel HZ hQ
    go_wp2_with fail
    go_ret
    exact ⟨ret_bool (by rw [HQ.out]; simp), HB.out⟩

theorem RpM.pushO {w wt w5 : World} {B H : Nat} {v v' tv : Value} {l : List Tg} {st1 : List Tc} {to : List Int} {y : Tg} (h : RpM w wt B H v tv l (st1, to)) (hg : wt.grownBy w5 v.ownBlock) (ho : OT w5 B v' (l ++ [y])) (hy : NdO w y) (hs : (y.wa = none → y.wc = 0) ∧ (y.ka = none → y.kc = 0)) : RpM w w5 B w5.heap.size v' tv (l ++ [y]) (st1 ++ [y.ct], to) where
 row := ho
 nd := fun x hx => by
  have keep : ∀ (b : Nat) (c : Array Value) (t : TypeId), t ≠ 67 → wt.heap[b]? = some (.cells c t (0, 0)) → w5.heap[b]? = wt.heap[b]? := fun b c t ht hc => hg.block b (lt_of_block hc) (fun e => by
   obtain ⟨c2, k2⟩ := h.row.typed e.symm
   rw [hc] at k2
   cases k2
   exact ht rfl)
  rcases List.mem_append.1 hx with hx | hx
  ·refine (h.nd x hx).imp id fun n => ⟨nw_blk n.wn fun p hp => ?_, ni_blk n.kn fun p hp => ?_, fun p hp => ?_, fun p hp => ?_, n.dj⟩
   ·obtain ⟨c, hc⟩ := nw_typed n.wn hp
    exact keep _ c _ (by decide) hc
   ·obtain ⟨c, hc⟩ := ni_typed n.kn hp
    exact keep _ c _ (by decide) hc
   ·have := n.wh p hp; have := h.hH; have := hg.size; omega
   ·have := n.kh p hp; have := h.hH; have := hg.size; omega
  ·simp at hx
   subst hx
   exact .inl hy
 sn := fun x hx => by
  rcases List.mem_append.1 hx with hx | hx
  ·exact h.sn x hx
  ·simp at hx
   subst hx
   exact hs
 eq := by
  have h9 := h.eq
  simp only [] at h9 ⊢
  rw [List.map_append, h9]
  rfl
 ot := h.ot.move fun b hb => hg.block b (h.ot.lt hb).2 (fun e => by
  obtain ⟨c1, k1⟩ := h.ot.typed9 hb
  obtain ⟨c2, k2⟩ := h.row.typed e.symm
  rw [k1] at k2
  cases k2)
 bl := h.bl.grown hg h.bl.size (fun k e => by have := (h.row.lt e).1; have := h.bB; omega)
 bB := h.bB
 BH := Nat.le_trans h.BH (Nat.le_trans h.hH hg.size)
 hH := Nat.le_refl _
 vH := fun b hb => (ho.lt hb).2
 tH := fun b hb => by have := h.tH b hb; have := h.hH; have := hg.size; omega
theorem RpM.cat {w wt w5 : World} {B H : Nat} {v v' : Value} {ka : Option Addr} {kc : Nat} {l : List Tg} {st1 : List Tc} {to : List Int} {y : Tg} (h : RpM w wt B H v (.slice ka to.length kc) l (st1, to)) (hg : wt.grownBy w5 v.ownBlock) (ho : OT w5 B v' (l ++ [y])) (hy : y = ⟨⟨y.ct.op, y.ct.vr, y.ct.a, y.ct.b, y.ct.bw, [], to⟩, none, 0, ka, kc⟩) (hok : ∀ n ∈ st1 ++ [y.ct], okT n) (hl : l.length + 1 ≤ 1048576) : (∃ a c, v' = .slice a (l.length + 1) c ∧ RdT w5 a (l ++ [y])) ∧ Sn (l ++ [y]) ∧ Below w.heap.size w w5 := by
 have keep : ∀ (b : Nat) (c : Array Value) (t : TypeId), t ≠ 67 → wt.heap[b]? = some (.cells c t (0, 0)) → w5.heap[b]? = wt.heap[b]? := fun b c t ht hc => hg.block b (lt_of_block hc) (fun e => by
  obtain ⟨c2, k2⟩ := h.row.typed e.symm
  rw [hc] at k2
  cases k2
  exact ht rfl)
 have hbl : Below w.heap.size w w5 := h.bl.grown hg h.bl.size (fun k e => by have := (h.row.lt e).1; have := h.bB; omega)
 have hot : OI w5 B (.slice ka to.length kc) to := h.ot.move fun b hb => by
  obtain ⟨c1, k1⟩ := h.ot.typed9 hb
  exact keep b c1 _ (by decide) k1
 have hyk : okT y.ct := hok _ (by simp)
 have hyks : y.ct.ks = to := by rw [hy]
 have hyws : y.ct.ws = [] := by rw [hy]
 have hywa : y.wa = none := by rw [hy]
 have hyka : y.ka = ka := by rw [hy]
 have hykc : y.kc = kc := by rw [hy]
 have hywc : y.wc = 0 := by rw [hy]
 obtain ⟨a, c, e⟩ := ho.form
 rw [List.length_append, List.length_singleton] at e
 refine ⟨⟨a, c, e, by simpa using hl, .inr ?_⟩, fun x hx => ?_, hbl⟩
 ·obtain ⟨g0, c0, e0, -⟩ := ho.at (i := l.length) (x := y) (by simp)
  rw [List.length_append, List.length_singleton, e] at e0
  injection e0 with e1 e2 e3
  subst e1
  refine ⟨g0, 0, rfl, fun i x hi => ?_⟩
  obtain ⟨g, c1, e4, ht⟩ := ho.at hi
  rw [List.length_append, List.length_singleton, e] at e4
  injection e4 with e5 e6 e7
  cases e5
  rw [Nat.zero_add]
  have hm := List.mem_of_getElem? hi
  have hokx : okT x.ct := by
   rcases List.mem_append.1 hm with h9 | h9
   ·refine hok _ (List.mem_append_left _ ?_)
    have h8 := h.eq
    simp only [] at h8
    rw [← h8]
    exact List.mem_map_of_mem h9
   ·simp at h9
    subst h9
    exact hyk
  obtain ⟨k1, k2, k3, k4, k5, k6, k7, k8, k9⟩ := hokx
  rcases List.mem_append.1 hm with h9 | h9
  ·rcases h.nd x h9 with n | n
   ·exact ⟨ht, n.1.later hbl, n.2.later hbl, k1, k2, k3, k4, k5⟩
   ·refine ⟨ht, (nw_blk n.wn fun p hp => ?_ : Nw w5 B x.wa x.ct.ws).rd k6 k7, (ni_blk n.kn fun p hp => ?_ : Ni w5 B x.ka x.ct.ks).rd k8 k9, k1, k2, k3, k4, k5⟩
    ·obtain ⟨c, hc⟩ := nw_typed n.wn hp
     exact keep _ c _ (by decide) hc
    ·obtain ⟨c, hc⟩ := ni_typed n.kn hp
     exact keep _ c _ (by decide) hc
  ·simp at h9
   subst h9
   obtain ⟨a9, c9, e9, hni⟩ := hot.ni
   injection e9 with e10 e11 e12
   subst e10
   refine ⟨ht, by rw [hyws, hywa]; exact ⟨by simp, by simp, .inl rfl⟩, by rw [hyka, hyks]; exact hni.rd (by rw [← hyks]; exact k8) (fun z hz => k9 z (by rw [hyks]; exact hz)), k1, k2, k3, k4, k5⟩
 ·rcases List.mem_append.1 hx with h9 | h9
  ·exact h.sn x h9
  ·simp at h9
   subst h9
   refine ⟨fun _ => hywc, fun e9 => ?_⟩
   rw [hykc]
   exact cap0 h.ot (by rw [← hyka]; exact e9)
theorem unfTo_drop {ds : List Dc} {fs : List Sc} {j : Nat} {s : Sc} (h : fs[j]? = some s) : unfTo ds (fs.drop j) = ((unfTo ds (fs.drop (j + 1))).1 ++ unf1 ds (unfTo ds (fs.drop (j + 1))).1.length s, (unfTo ds (fs.drop (j + 1))).2 ++ [(((unfTo ds (fs.drop (j + 1))).1 ++ unf1 ds (unfTo ds (fs.drop (j + 1))).1.length s).length : Int) - 1]) := by
 have hl := (List.getElem?_eq_some_iff.1 h).1
 rw [List.drop_eq_getElem_cons hl, show fs[j] = s by rw [List.getElem?_eq_getElem hl] at h; exact Option.some.inj h, unfTo]

set_option maxHeartbeats 4000000 in
set_option maxRecDepth 100000 in
theorem copyW (bw : Int) (wa : Option Addr) (c n : Nat) (ws : List Nat) (w : World) (hr : Rd w wa ws) (hn : ws.length = n) (hw0 : wa = none → c = 0) :
  Calls Tryz.prog 61 #[.agg #[.int .i64 bw, .slice wa n c]] w fun e w' => ∃ a2 c2, e = .returned (.agg #[.int .i64 bw, .slice a2 n c2]) ∧ Nw w' w.heap.size a2 ws ∧ Below w.heap.size w w' := by
 have hb2 : Below w.heap.size w ((w.alloc (Obj.cells #[.int .i64 bw, .slice wa n c] 65)).alloc (Obj.cells #[.int .i64 0, .slice none 0 0] 65)) := (blA _ _).alloc (by simp) _
 have hr2 := hr.later hb2
 have XP := kide (Bz.later (Bz.new w #[.int .i64 bw, .slice wa n c] 65) ((Below.refl _ _).alloc (Nat.le_refl _) (Obj.cells #[.int .i64 0, .slice none 0 0] 65)))
 have XR : Hid (Bz ((w.alloc (Obj.cells #[.int .i64 bw, .slice wa n c] 65)).alloc (Obj.cells #[.int .i64 0, .slice none 0 0] 65)) (w.heap.size + 1) #[.int .i64 0, .slice none 0 0] 65) := by
  have h9 := Bz.new (w.alloc (Obj.cells #[.int .i64 bw, .slice wa n c] 65)) #[.int .i64 0, .slice none 0 0] 65
  rw [show (w.alloc (Obj.cells #[.int .i64 bw, .slice wa n c] 65)).heap.size = w.heap.size + 1 by simp] at h9
  exact h9
 have hlW : Hid (w.heap.size + 2 ≤ ((w.alloc (Obj.cells #[.int .i64 bw, .slice wa n c] 65)).alloc (Obj.cells #[.int .i64 0, .slice none 0 0] 65)).heap.size) := by show _ ≤ _; simp
 have hl := hr2.1
 have HC := kide (fun u (hu : Below w.heap.size w u) => hr.later hu)
 have HN := kide hn
 have BW := kide hb2
 clear hr hr2 hb2
 go_enter Tryz.func61, Tryz.ntmps61
 go_wp2_with fail
 generalize ((w.alloc (Obj.cells #[.int .i64 bw, .slice wa n c] 65)).alloc (Obj.cells #[.int .i64 0, .slice none 0 0] 65)) = W at *
 obtain ⟨b0, hb0⟩ : ∃ b0, w.heap.size = b0 := ⟨_, rfl⟩
 rw [hb0] at XP XR hlW
 simp only [hb0]
 have HB0 := kide hb0
 clear hb0
 refine wp_region_x (SA := fun _ => False) (SB := fun uu => uu.cell? ⟨b0, 0, none⟩ = some (Value.int .i64 bw) ∧ uu.cell? ⟨b0, 1, none⟩ = some (Value.slice wa n c)) (k := 999) (by kernel_rfl) ?_
 have hbd : Below W.heap.size W W.drew := (Below.refl _ _).drew
 have XP0 := kide (XP.out.later hbd)
 have XR0 := kide (XR.out.later hbd)
 have hu0 := kide hbd
 clear hbd
 generalize W.drew = u0 at *
 have c0_0 : u0.cell? ⟨b0, 0, none⟩ = some (Value.int .i64 bw) := XP0.out.cell 0
 have c1_0 : u0.cell? ⟨b0, 1, none⟩ = some (Value.slice wa n c) := XP0.out.cell 1
 have hs0 : Hid ((fun uu => uu.cell? ⟨b0, 0, none⟩ = some (Value.int .i64 bw) ∧ uu.cell? ⟨b0, 1, none⟩ = some (Value.slice wa n c)) u0) := ⟨c0_0, c1_0⟩
 try go_simp
 refine tkU (i := 0) (v := Value.pointer (some ⟨b0, 0, none⟩)) rfl (Sx.behind (by kernel_rfl) hs0.out) ?_
 try go_simp
 refine tkS (i := 1) (v := Value.int .i64 bw) rfl hs0.out (fun uu hu => by obtain ⟨e0, e1⟩ := hu; go_simp) ?_
 try go_simp
 refine tkU (i := 2) (v := Value.pointer (some ⟨b0, 1, none⟩)) rfl (Sx.behind (by kernel_rfl) hs0.out) ?_
 try go_simp
 refine tkS (i := 3) (v := Value.slice wa n c) rfl hs0.out (fun uu hu => by obtain ⟨e0, e1⟩ := hu; go_simp) ?_
 try go_simp
 refine rdX (rs := [4]) (cnB rfl (fun K hK => ?_) AllX.nil)
 refine step_appWr _ rfl _ _ rfl W.heap.size (.slice none 0 0) [] ws (by first | rfl | simp [Act.eval]) (OwW.nils _ _) wa c (by rw [HN.out]; first | rfl | simp [Act.eval]) hw0 (HC.out _ (BW.out.trans (hu0.out.mono BW.out.size))) (by simp; omega) hu0.out.size ?_
 intro v5 u1 how hgr
 obtain ⟨a5, c5, rfl, hn5⟩ := how.shape
 have hbg : Below W.heap.size u0 u1 := Below.grown (Below.refl _ _) hgr hu0.out.size (fun j hj => by cases hj)
 have NN1 := kide hn5
 have XP1 : Hid (Bz u1 b0 #[.int .i64 bw, .slice wa n c] 65) := (hbg.block b0 (by have := hlW.out; omega)).trans XP0.out
 have XR1 : Hid (Bz u1 (b0 + 1) #[.int .i64 0, .slice none 0 0] 65) := (hbg.block (b0 + 1) (by have := hlW.out; omega)).trans XR0.out
 have hu1 := kide (hu0.out.trans hbg)
 rw [List.nil_append, HN.out]
 rw [List.nil_append] at NN1
 clear how hgr hbg hn5
 have c0_1 : u1.cell? ⟨b0, 0, none⟩ = some (Value.int .i64 bw) := XP1.out.cell 0
 have c1_1 : u1.cell? ⟨b0, 1, none⟩ = some (Value.slice wa n c) := XP1.out.cell 1
 have hs1 : Hid ((fun uu => uu.cell? ⟨b0, 0, none⟩ = some (Value.int .i64 bw) ∧ uu.cell? ⟨b0, 1, none⟩ = some (Value.slice wa n c)) u1) := ⟨c0_1, c1_1⟩
 refine hK _ _ hs1.out ?_
 clear hK K
 try go_simp
 refine tkU (i := 5) (v := Value.agg #[.int .i64 bw, .slice a5 n c5]) rfl (Sx.behind (by kernel_rfl) hs1.out) ?_
 try go_simp
 refine rdX (rs := [6]) (cnB rfl (fun K hK => ?_) AllX.nil)
 have e0 : u1.cell? ⟨b0 + 1, 0, none⟩ = some (Value.int .i64 0) := XR1.out.cell 0
 have e1 : u1.cell? ⟨b0 + 1, 1, none⟩ = some (Value.slice none 0 0) := XR1.out.cell 1
 have f0 := XR1.out.froz 0
 have f1 := XR1.out.froz 1
 go_simp
 have XR2 : Hid (Bz ((u1.setCell ⟨b0 + 1, 0, none⟩ (Value.int .i64 bw)).setCell ⟨b0 + 1, 1, none⟩ (Value.slice a5 n c5)) (b0 + 1) #[.int .i64 bw, .slice a5 n c5] 65) := (XR1.out.set 0 _).set 1 _
 have XP2 : Hid (Bz ((u1.setCell ⟨b0 + 1, 0, none⟩ (Value.int .i64 bw)).setCell ⟨b0 + 1, 1, none⟩ (Value.slice a5 n c5)) b0 #[.int .i64 bw, .slice wa n c] 65) := (XP1.out.other (by omega) 0 _).other (by omega) 1 _
 have NN2 : Hid (Nw ((u1.setCell ⟨b0 + 1, 0, none⟩ (Value.int .i64 bw)).setCell ⟨b0 + 1, 1, none⟩ (Value.slice a5 n c5)) W.heap.size a5 ws) := nw_set (nw_set NN1.out XR1.out (by decide) 0 _) (XR1.out.set 0 (Value.int .i64 bw)) (by decide) 1 _
 have BB2 : Hid (Below w.heap.size w ((u1.setCell ⟨b0 + 1, 0, none⟩ (Value.int .i64 bw)).setCell ⟨b0 + 1, 1, none⟩ (Value.slice a5 n c5))) := ((BW.out.trans (hu1.out.mono BW.out.size)).setCell (by rw [HB0.out]; exact Nat.le_succ _) _).setCell (by rw [HB0.out]; exact Nat.le_succ _) _
 clear e0 e1 f0 f1
 generalize (u1.setCell ⟨b0 + 1, 0, none⟩ (Value.int .i64 bw)).setCell ⟨b0 + 1, 1, none⟩ (Value.slice a5 n c5) = u2 at *
 have c0_2 : u2.cell? ⟨b0, 0, none⟩ = some (Value.int .i64 bw) := XP2.out.cell 0
 have c1_2 : u2.cell? ⟨b0, 1, none⟩ = some (Value.slice wa n c) := XP2.out.cell 1
 have hs2 : Hid ((fun uu => uu.cell? ⟨b0, 0, none⟩ = some (Value.int .i64 bw) ∧ uu.cell? ⟨b0, 1, none⟩ = some (Value.slice wa n c)) u2) := ⟨c0_2, c1_2⟩
 refine hK _ _ hs2.out ?_
 clear hK K
 try go_simp
 refine wpAnyX_done (by kernel_rfl) ?_ _
 go_wp2_with fail
 have y0 : u2.cell? ⟨b0 + 1, 0, none⟩ = some (Value.int .i64 bw) := XR2.out.cell 0
 have y1 : u2.cell? ⟨b0 + 1, 1, none⟩ = some (Value.slice a5 n c5) := XR2.out.cell 1
 exact bodyPost_ret (v := Value.agg #[.int .i64 bw, .slice a5 n c5]) (by simp [results, Tryz.results61, go_sem, y0, y1]) rfl ⟨a5, ⟨c5, rfl⟩, Nw.mono NN2.out (by have := hlW.out; have := HB0.out; omega), BB2.out⟩

end Go.Proofs.YtnpjgoklpaigjaaGreatDoor
