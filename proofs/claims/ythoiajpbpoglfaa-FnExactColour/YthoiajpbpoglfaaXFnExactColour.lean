/- The law FnExactColour returns true, whatever it is handed. -/
import Derived.Test.YthoiajpbpoglfaaHSH
import Derived.Test.YthoiajpbpoglfaaHLA
import Derived.Test.YthoiajpbpoglfaaZKAT
namespace Go.Proofs.Ythoiajpbpoglfaa
set_option linter.unusedVariables false
set_option linter.unusedSimpArgs false
open Go.RowKit

/-- A graph as it lies, so that it may be marked. -/
def Gm (w : World) (lo hi : Nat) (y : Gz) : Prop := ∃ mid, lo ≤ mid ∧ mid ≤ hi ∧ hi ≤ w.heap.size ∧ Ti w lo mid y.a1 y.ks.length ∧ TyB w mid hi y.a2 y.bs.length
theorem Gm.later {w w' : World} {lo hi : Nat} {y : Gz} (h : Gm w lo hi y) (hb : Below w.heap.size w w') : Gm w' lo hi y := by
  obtain ⟨mid, h1, h2, h3, h4, h5⟩ := h
  exact ⟨mid, h1, h2, Nat.le_trans h3 hb.size, h4.later hb, h5.far fun b _ hb' => hb.block b (by omega)⟩
theorem Gm.out {w w' : World} {lo hi B1 B2 : Nat} {y : Gz} (h : Gm w lo hi y) (ho : Out B1 B2 w w') (hd : hi ≤ B1 ∨ B2 ≤ lo) : Gm w' lo hi y := by
  obtain ⟨mid, h1, h2, h3, h4, h5⟩ := h
  exact ⟨mid, h1, h2, Nat.le_trans h3 ho.2.2.2.1, h4.out ho (by omega), h5.out ho (by omega) h3⟩
theorem markGm {w : World} {lo hi : Nat} {y : Gz} (h : Gm w lo hi y) (hn : y.ks.length ≤ 1048576) :
    Calls Try.prog 12 #[y.val, .int .i64 1] w fun e w' => ∃ K : Nat, e = .returned (.int .i64 (K : Int)) ∧ Out lo hi w w' := by
  obtain ⟨mid, h1, h2, h3, h4, h5⟩ := h
  exact markGraph_any y lo mid hi w h4 h5 h1 h2 h3 hn
theorem bz_outQ {w w' : World} {b lo hi : Nat} {cs : Array Value} {t : TypeId} (h : Bz w b cs t) (ho : Out lo hi w w') (hd : b < lo ∨ hi ≤ b) : Bz w' b cs t := by
  unfold Bz at h ⊢
  rw [ho.2.2.2.2 b (lt_of_block h) hd]; exact h
theorem okW_col (ks : List Int) (bs : List Yc) (most : Int) : okW (colR ks bs most).1 := by
  unfold colR
  split
  · rename_i h
    obtain ⟨hg, -⟩ := h
    have hk : ks.length ≤ 200 ∧ ∀ x ∈ ks, 1 ≤ x ∧ x ≤ 4096 := by
      simp only [graphR, Bool.and_eq_true, decide_eq_true_eq, List.all_eq_true, wOk] at hg
      exact ⟨hg.1.1.1, hg.1.2⟩
    split
    · refine ⟨by unfold wct; simp; omega, fun x hx => ?_⟩
      obtain ⟨i, hi, rfl⟩ := List.mem_map.1 hx
      have hi9 := List.mem_range.1 hi
      have hV := hk.2 (ks.getD i 0) (by rw [List.getD, List.getElem?_eq_getElem hi9]; exact List.getElem_mem _)
      exact ⟨by unfold in64; simp only []; omega, (numW_ok _ _).1, (numW_ok _ _).2⟩
    · exact ⟨by simp, by simp⟩
  · exact ⟨by simp, by simp⟩

set_option maxHeartbeats 4000000 in
set_option maxRecDepth 100000 in
theorem law_yes_FnExactColour (z : Gz) (most : Int) (hmo : in64 most) (w : World) (hz : RdG w z) (Z : Int) (hZ : 0 ≤ Z)
    (HSZ : Hid (∀ u, Below w.heap.size w u → Calls Try.prog 6 #[z.val, .int .i64 1048576] u fun e w' => e = .returned (.int .i64 Z) ∧ Below u.heap.size u w')) :
    Calls Try.prog 3 #[z.val, .int .i64 most] w fun e w' => e = .returned (.bool true) ∧ Below w.heap.size w w' := by
  have HTC := kide (fun u (hu : Below w.heap.size w u) => toGraph_ty z u (hz.later hu))
  have HKL := kide hz.1.1
  clear hz
  have HSP : Hid (∀ u (y : Gz), RdG u y → y.ct = z.ct → Calls Try.prog 7 #[y.val, .int .i64 most] u (RetC u (colR z.ks (z.bs.map Yg.ct) most))) := fun u y h1 e1 => by
    have h := specColour_any y most u h1 hmo
    have e2 : y.ks = z.ks := congrArg Prod.fst e1
    have e3 : y.bs.map Yg.ct = z.bs.map Yg.ct := congrArg Prod.snd e1
    rwa [e2, e3] at h
  have HIM : Hid (∀ u (y : Gz), RdG u y → y.ct = z.ct → (∀ x ∈ y.bs, x.ct.ws.length ≤ x.c) → Calls Try.prog 9 #[y.val, .int .i64 most] u (RetC u (colR z.ks (z.bs.map Yg.ct) most))) := fun u y h1 e1 hc => by
    have h := implColour_any y most u h1 hc hmo
    have e2 : y.ks = z.ks := congrArg Prod.fst e1
    have e3 : y.bs.map Yg.ct = z.bs.map Yg.ct := congrArg Prod.snd e1
    rwa [e2, e3] at h
  have hOK := okW_col z.ks (z.bs.map Yg.ct) most
  generalize colR z.ks (z.bs.map Yg.ct) most = X at *
  have HLN : Hid (∀ y : Gz, y.ct = z.ct → y.ks.length ≤ 1048576) := fun y e1 => by
    have e2 : y.ks = z.ks := congrArg Prod.fst e1
    rw [e2]; exact HKL.out
  generalize hct : z.ct = ct at *
  obtain ⟨a1, c1, ks, a2, c2, bs⟩ := z
  simp only [Gz.val] at HSZ HTC ⊢
  clear hct HKL
  generalize ks.length = n1 at *
  generalize bs.length = n2 at *
  obtain ⟨Y, P, Q9⟩ := X
  simp only [RetC] at hOK HSP HIM
  have HOK := kide hOK
  have hPP : (P != P) = false := by simp
  have hQQ : (Q9 != Q9) = false := by simp
  clear hOK
  go_enter Try.func3, Try.ntmps3
  have B0 := kide (Below.refl w.heap.size w)
  go_wp2_with fail
  have hb : Below w.heap.size w (w.alloc (Obj.cells #[.slice a1 n1 c1, .slice a2 n2 c2] 25)) := (Below.refl _ _).alloc (Nat.le_refl _) _
  have B1 := kide (B0.out.trans (hb.mono B0.out.size))
  have z1 : w.heap.size < (w.alloc (Obj.cells #[.slice a1 n1 c1, .slice a2 n2 c2] 25)).heap.size := by simp
  have CB1 := kide (Bz.new w #[.slice a1 n1 c1, .slice a2 n2 c2] 25)
  clear hb B0
  generalize w.alloc (Obj.cells #[.slice a1 n1 c1, .slice a2 n2 c2] 25) = w1 at *
  refine Calls.mono (HSZ.out _ B1.out) ?_
  rintro e w2 ⟨rfl, hb⟩
  have B2 := kide (B1.out.trans (hb.mono B1.out.size))
  have z2 : w1.heap.size ≤ w2.heap.size := hb.size
  have CB2 := kide (CB1.out.later hb)
  clear hb B1 CB1
  have k0 : w2.cell? ⟨w.heap.size, 0, none⟩ = some (Value.slice a1 n1 c1) := CB2.out.cell 0
  have k1 : w2.cell? ⟨w.heap.size, 1, none⟩ = some (Value.slice a2 n2 c2) := CB2.out.cell 1
  go_wp2_with fail
  refine Calls.mono (HTC.out _ B2.out) ?_
  rintro e w3 ⟨y3, mid3, rfl, e3, r, -, -, -, -, -, hb⟩
  have B3 := kide (B2.out.trans (hb.mono B2.out.size))
  have z3 : w2.heap.size ≤ w3.heap.size := hb.size
  have CB3 := kide (CB2.out.later hb)
  have RC3 := kide r
  have E3 := kide e3
  clear r e3 k0 k1
  clear hb B2 CB2
  go_wp2_with fail
  refine Calls.mono (HSP.out w3 y3 RC3.out E3.out) ?_
  rintro e w4 ⟨v4, l4, rfl, bs4, el4, hb⟩
  have B4 := kide (B3.out.trans (hb.mono B3.out.size))
  have z4 : w3.heap.size ≤ w4.heap.size := hb.size
  have CB4 := kide (CB3.out.later hb)
  have S4 := kide (Tb.of bs4)
  have EL4 := kide el4
  clear bs4 el4 E3
  clear hb B3 CB3 RC3
  have k0 : w4.cell? ⟨w.heap.size, 0, none⟩ = some (Value.slice a1 n1 c1) := CB4.out.cell 0
  have k1 : w4.cell? ⟨w.heap.size, 1, none⟩ = some (Value.slice a2 n2 c2) := CB4.out.cell 1
  go_wp2_with fail
  refine Calls.mono (HTC.out _ B4.out) ?_
  rintro e w5 ⟨y5, mid5, rfl, e5, r, cp, m51, m52, ti, ty, hb⟩
  have B5 := kide (B4.out.trans (hb.mono B4.out.size))
  have z5 : w4.heap.size ≤ w5.heap.size := hb.size
  have CB5 := kide (CB4.out.later hb)
  have S5 := kide (S4.out.later hb)
  have RC5 := kide r
  have QC5 := kide (show Gm w5 w4.heap.size w5.heap.size y5 from ⟨mid5, m51, m52, Nat.le_refl _, ti, ty⟩)
  have E5 := kide e5
  have CP5 := kide cp
  clear r e5 cp m51 m52 ti ty k0 k1
  simp only [Gz.val]
  clear hb B4 CB4 S4
  go_wp2_with fail
  have hb : Below w5.heap.size w5 (w5.alloc (Obj.cells #[Value.slice y5.a1 y5.ks.length y5.c1, Value.slice y5.a2 y5.bs.length y5.c2] 32)) := (Below.refl _ _).alloc (Nat.le_refl _) _
  have B6 := kide (B5.out.trans (hb.mono B5.out.size))
  have z6 : w5.heap.size < (w5.alloc (Obj.cells #[Value.slice y5.a1 y5.ks.length y5.c1, Value.slice y5.a2 y5.bs.length y5.c2] 32)).heap.size := by simp
  have CB6 := kide (CB5.out.later hb)
  have S6 := kide (S5.out.later hb)
  have RC6 := kide (RC5.out.later hb)
  have QC6 := kide (QC5.out.later hb)
  have XB6 := kide (Bz.new w5 #[Value.slice y5.a1 y5.ks.length y5.c1, Value.slice y5.a2 y5.bs.length y5.c2] 32)
  clear hb B5 CB5 S5 RC5 QC5
  generalize w5.alloc (Obj.cells #[Value.slice y5.a1 y5.ks.length y5.c1, Value.slice y5.a2 y5.bs.length y5.c2] 32) = w6 at *
  have j0 : w6.cell? ⟨w5.heap.size, 0, none⟩ = some (Value.slice y5.a1 y5.ks.length y5.c1) := XB6.out.cell 0
  have j1 : w6.cell? ⟨w5.heap.size, 1, none⟩ = some (Value.slice y5.a2 y5.bs.length y5.c2) := XB6.out.cell 1
  refine Calls.mono (HIM.out w6 y5 RC6.out E5.out CP5.out) ?_
  rintro e w7 ⟨v7, l7, rfl, bs7, el7, hb⟩
  have B7 := kide (B6.out.trans (hb.mono B6.out.size))
  have z7 : w6.heap.size ≤ w7.heap.size := hb.size
  have CB7 := kide (CB6.out.later hb)
  have S7 := kide (S6.out.later hb)
  have RC7 := kide (RC6.out.later hb)
  have QC7 := kide (QC6.out.later hb)
  have XB7 := kide (XB6.out.later hb)
  have G7 := kide (Tb.of bs7)
  have EL7 := kide el7
  clear bs7 el7 j0 j1
  clear hb B6 CB6 S6 RC6 QC6 XB6
  go_wp2_with fail
  refine Calls.mono (eqBs G7.out.bs S7.out.bs (by rw [EL7.out]; exact HOK.out) (EL4.out.trans EL7.out.symm)) ?_
  rintro e w8 ⟨rfl, hb⟩
  have B8 := kide (B7.out.trans (hb.mono B7.out.size))
  have z8 : w7.heap.size ≤ w8.heap.size := hb.size
  have CB8 := kide (CB7.out.later hb)
  have S8 := kide (S7.out.later hb)
  have RC8 := kide (RC7.out.later hb)
  have QC8 := kide (QC7.out.later hb)
  have XB8 := kide (XB7.out.later hb)
  have G8 := kide (G7.out.later hb)
  clear hb B7 CB7 S7 RC7 QC7 XB7 G7
  have k0 : w8.cell? ⟨w.heap.size, 0, none⟩ = some (Value.slice a1 n1 c1) := CB8.out.cell 0
  have k1 : w8.cell? ⟨w.heap.size, 1, none⟩ = some (Value.slice a2 n2 c2) := CB8.out.cell 1
  have j0 : w8.cell? ⟨w5.heap.size, 0, none⟩ = some (Value.slice y5.a1 y5.ks.length y5.c1) := XB8.out.cell 0
  have j1 : w8.cell? ⟨w5.heap.size, 1, none⟩ = some (Value.slice y5.a2 y5.bs.length y5.c2) := XB8.out.cell 1
  go_wp2_with fail
  go_region_held3 (fun u => u.cell? ⟨w.heap.size, 0, none⟩ = some (Value.slice a1 n1 c1) ∧ u.cell? ⟨w.heap.size, 1, none⟩ = some (Value.slice a2 n2 c2) ∧ u.cell? ⟨w5.heap.size, 0, none⟩ = some (Value.slice y5.a1 y5.ks.length y5.c1) ∧ u.cell? ⟨w5.heap.size, 1, none⟩ = some (Value.slice y5.a2 y5.bs.length y5.c2)) (simp [*])
    (first
      | (go_at_call 8; refine Calls.mono (HTC.out _ ?_) ?_; exact B8.out.drew; rintro e w9 ⟨y9, mid9, rfl, e9, r9, -, -, -, -, -, hb9⟩; replace hb9 := kundrew hb9; have z9 : w8.heap.size ≤ w9.heap.size := hb9.size; have B9 := kide (B8.out.trans (hb9.mono B8.out.size)); have CB9 := kide (CB8.out.later hb9); have S9 := kide (S8.out.later hb9); have RC9 := kide (RC8.out.later hb9); have QC9 := kide (QC8.out.later hb9); have XB9 := kide (XB8.out.later hb9); have G9 := kide (G8.out.later hb9); have HE9 := kide (eqGraph_same y5 y9 w9 RC9.out r9 (E5.out.trans e9.symm)); have x0 : w9.cell? ⟨w.heap.size, 0, none⟩ = some (Value.slice a1 n1 c1) := CB9.out.cell 0; have x1 : w9.cell? ⟨w.heap.size, 1, none⟩ = some (Value.slice a2 n2 c2) := CB9.out.cell 1; have y0 : w9.cell? ⟨w5.heap.size, 0, none⟩ = some (Value.slice y5.a1 y5.ks.length y5.c1) := XB9.out.cell 0; have y1 : w9.cell? ⟨w5.heap.size, 1, none⟩ = some (Value.slice y5.a2 y5.bs.length y5.c2) := XB9.out.cell 1; clear e9 r9 hb9)
      | (go_at_call 11; refine Calls.mono HE9.out ?_; rintro e w10 ⟨rfl, hb10⟩; have z10 : w9.heap.size ≤ w10.heap.size := hb10.size; have B10 := kide (B9.out.trans (hb10.mono B9.out.size)); have CB10 := kide (CB9.out.later hb10); have S10 := kide (S9.out.later hb10); have QC10 := kide (QC9.out.later hb10); have XB10 := kide (XB9.out.later hb10); have G10 := kide (G9.out.later hb10); have x20 : w10.cell? ⟨w.heap.size, 0, none⟩ = some (Value.slice a1 n1 c1) := CB10.out.cell 0; have x21 : w10.cell? ⟨w.heap.size, 1, none⟩ = some (Value.slice a2 n2 c2) := CB10.out.cell 1; have y20 : w10.cell? ⟨w5.heap.size, 0, none⟩ = some (Value.slice y5.a1 y5.ks.length y5.c1) := XB10.out.cell 0; have y21 : w10.cell? ⟨w5.heap.size, 1, none⟩ = some (Value.slice y5.a2 y5.bs.length y5.c2) := XB10.out.cell 1))
  clear k0 k1 j0 j1 x0 x1 y0 y1 x20 x21 y20 y21 hb10 HE9 B8 B9 CB8 CB9 S8 S9 RC8 RC9 QC8 QC9 XB8 XB9 G8 G9
  have j0 : w10.cell? ⟨w5.heap.size, 0, none⟩ = some (Value.slice y5.a1 y5.ks.length y5.c1) := XB10.out.cell 0
  have j1 : w10.cell? ⟨w5.heap.size, 1, none⟩ = some (Value.slice y5.a2 y5.bs.length y5.c2) := XB10.out.cell 1
  go_wp2_with fail
  refine Calls.mono (markGm QC10.out (HLN.out y5 E5.out)) ?_
  rintro e w11 ⟨K1, rfl, ho⟩
  have B11 := kide (Out.bel B10.out ho (by omega))
  have z11 : w10.heap.size ≤ w11.heap.size := ho.2.2.2.1
  have CB11 := kide (bz_outQ CB10.out ho (by omega))
  have S11 := kide (S10.out.keep ho (by omega))
  have XB11 := kide (bz_outQ XB10.out ho (by omega))
  have G11 := kide (G10.out.keep ho (by omega))
  have hK2b : ¬ (K1 : Int) < 0 := by omega
  clear j0 j1
  clear ho B10 CB10 S10 XB10 G10 QC10
  go_wp2_with fail
  refine Calls.mono (eqBs G11.out.bs S11.out.bs (by rw [EL7.out]; exact HOK.out) (EL4.out.trans EL7.out.symm)) ?_
  rintro e w12 ⟨rfl, hb⟩
  have B12 := kide (B11.out.trans (hb.mono B11.out.size))
  have z12 : w11.heap.size ≤ w12.heap.size := hb.size
  have CB12 := kide (CB11.out.later hb)
  have S12 := kide (S11.out.later hb)
  have XB12 := kide (XB11.out.later hb)
  have G12 := kide (G11.out.later hb)
  clear hb B11 CB11 S11 XB11 G11
  obtain ⟨ga, gc, rfl⟩ := G12.out.bs.form
  have hgl : l7.length ≤ 1048576 := by have := HOK.out.1; rw [← EL7.out] at this; simpa using this
  have HGW : Hid (∀ x ∈ l7, x.ws.length ≤ 1048576) := fun x hx => (HOK.out.2 x.ct (by rw [← EL7.out]; exact List.mem_map_of_mem hx)).2.1
  go_wp2_with fail
  refine Calls.mono (markV_any w6.heap.size w12.heap.size l7.length gc ga l7 w12 G12.out.bs HGW.out rfl hgl (Nat.le_refl _)) ?_
  rintro e w13 ⟨rfl, hh, ho⟩
  have B13 := kide (Out.bel B12.out ho (by omega))
  have z13 : w12.heap.size ≤ w13.heap.size := ho.2.2.2.1
  have CB13 := kide (bz_outQ CB12.out ho (by omega))
  have S13 := kide (S12.out.keep ho (by omega))
  have XB13 := kide (bz_outQ XB12.out ho (by omega))
  have HH13 := kide hh
  have HLE := kide (mkAt_le (k := 1) HGW.out l7.length)
  obtain ⟨V, hV⟩ : ∃ V, mkAt l7 1 l7.length = V := ⟨_, rfl⟩
  have HVV := kide (fun u (hu : HeldV u (.slice ga l7.length gc) l7 1) => heldV_any l7.length gc ga l7 u hu HGW.out rfl hgl)
  rw [hV] at HVV
  rw [hV]
  have hv0 : ¬ (V : Int) < 0 := by omega
  have hvv : ((V : Int) != (V : Int)) = false := by simp
  clear hh hV
  clear ho B12 CB12 S12 XB12 G12
  go_wp2_with fail
  refine Calls.mono (HVV.out w13 HH13.out) ?_
  rintro e wq ⟨rfl, hwq⟩
  obtain rfl := hwq.symm
  clear hwq
  have k0 : w13.cell? ⟨w.heap.size, 0, none⟩ = some (Value.slice a1 n1 c1) := CB13.out.cell 0
  have k1 : w13.cell? ⟨w.heap.size, 1, none⟩ = some (Value.slice a2 n2 c2) := CB13.out.cell 1
  go_wp2_with fail
  refine Calls.mono (HTC.out _ B13.out) ?_
  rintro e w14 ⟨y14, mid14, rfl, e14, r, cp, -, -, -, -, hb⟩
  have B14 := kide (B13.out.trans (hb.mono B13.out.size))
  have z14 : w13.heap.size ≤ w14.heap.size := hb.size
  have CB14 := kide (CB13.out.later hb)
  have S14 := kide (S13.out.later hb)
  have XB14 := kide (XB13.out.later hb)
  have HH14 := kide (HH13.out.later hb)
  have RC14 := kide r
  have E14 := kide e14
  have CP14 := kide cp
  clear r e14 cp k0 k1
  clear hb B13 CB13 S13 XB13 HH13
  go_wp2_with fail
  refine Calls.mono (HIM.out w14 y14 RC14.out E14.out CP14.out) ?_
  rintro e w15 ⟨v15, l15, rfl, bs15, el15, hb⟩
  have B15 := kide (B14.out.trans (hb.mono B14.out.size))
  have z15 : w14.heap.size ≤ w15.heap.size := hb.size
  have CB15 := kide (CB14.out.later hb)
  have S15 := kide (S14.out.later hb)
  have XB15 := kide (XB14.out.later hb)
  have HH15 := kide (HH14.out.later hb)
  have H15 := kide (Tb.of bs15)
  have EL15 := kide el15
  clear bs15 el15
  clear hb B14 CB14 S14 XB14 HH14 RC14
  go_wp2_with fail
  refine Calls.mono (eqBs H15.out.bs S15.out.bs (by rw [EL15.out]; exact HOK.out) (EL4.out.trans EL15.out.symm)) ?_
  rintro e w16 ⟨rfl, hb⟩
  have B16 := kide (B15.out.trans (hb.mono B15.out.size))
  have z16 : w15.heap.size ≤ w16.heap.size := hb.size
  have CB16 := kide (CB15.out.later hb)
  have XB16 := kide (XB15.out.later hb)
  have HH16 := kide (HH15.out.later hb)
  clear hb B15 CB15 XB15 HH15 H15 S15
  go_wp2_with fail
  refine Calls.mono (HVV.out w16 HH16.out) ?_
  rintro e wq ⟨rfl, hwq⟩
  obtain rfl := hwq.symm
  clear hwq
  go_wp2_with fail
  go_ret
  exact ⟨rfl, B16.out⟩

theorem law_no_FnExactColour (a1 a2 : Option Addr) (n1 c1 n2 c2 : Nat) (most : Int) (w : World) (Z : Int) (hZ : Z < 0)
    (HSZ : Hid (∀ u, Below w.heap.size w u → Calls Try.prog 6 #[.agg #[.slice a1 n1 c1, .slice a2 n2 c2], .int .i64 1048576] u fun e w' => e = .returned (.int .i64 Z) ∧ Below u.heap.size u w')) :
    Calls Try.prog 3 #[.agg #[.slice a1 n1 c1, .slice a2 n2 c2], .int .i64 most] w fun e w' => e = .returned (.bool true) ∧ Below w.heap.size w w' := by
  have s0 := Bx.start w (.cells #[.slice a1 n1 c1, .slice a2 n2 c2] 25)
  go_enter Try.func3, Try.ntmps3
  go_wp2_with fail
  refine Calls.mono (HSZ.out _ s0.below) ?_
  rintro e w1 ⟨rfl, hb1⟩
  have s1 := s0.next hb1
  go_wp2_with fail
  go_ret
  exact ⟨rfl, s1.below⟩

theorem walk_FnExactColour (a1 a2 : Option Addr) (n1 c1 n2 c2 : Nat) (x : Int) (hx : (Lit.int .i64 x).wf = true) (w : World) (hz : OpG w a1 a2 n1 n2) :
    Calls Try.prog 3 #[.agg #[.slice a1 n1 c1, .slice a2 n2 c2], .int .i64 x] w fun e w' => e = .returned (.bool true) ∧ Below w.heap.size w w' := by
  obtain ⟨Z, HSZ, -, hneg | ⟨hpos, ks, bs, rfl, rfl, hr⟩⟩ := size_graph a1 a2 n1 c1 n2 c2 w hz
  · exact law_no_FnExactColour a1 a2 n1 c1 n2 c2 x w Z hneg HSZ
  · exact law_yes_FnExactColour ⟨a1, c1, ks, a2, c2, bs⟩ x (bounds_i64 hx) w hr Z hpos HSZ

end Go.Proofs.Ythoiajpbpoglfaa
