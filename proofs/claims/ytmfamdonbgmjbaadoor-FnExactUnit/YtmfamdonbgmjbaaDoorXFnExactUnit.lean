/- The law FnExactUnit returns true, whatever it is handed. -/
import Derived.Test.YtmfamdonbgmjbaaDoorZGAI
import Derived.Test.YtmfamdonbgmjbaaDoorUNW
import Derived.Test.YtmfamdonbgmjbaaDoorUNE
import Derived.Test.YtmfamdonbgmjbaaDoorUOA
import Derived.Test.YtmfamdonbgmjbaaDoorZGAJ
namespace Go.Proofs.YtmfamdonbgmjbaaDoor
set_option linter.unusedVariables false
set_option linter.unusedSimpArgs false
open Go.RowKit

theorem len_of_ks {ms xs : List Iw} {n : Nat} (h : ms.map Iw.ks = xs.map Iw.ks) (hn : xs.length = n) : ms.length = n := by
  have := congrArg List.length h
  simp at this
  rw [this]; exact hn
theorem newWatcher_said : NewWatcherAny := fun _ _ _ _ _ xs h1 h2 h3 h4 h5 h6 => newWatcher_any xs h1 h2 h3 h4 h5 h6
theorem unF_tk {S : Nat} {cs : List (List Int)} (hc : ∀ cl ∈ cs, ∀ x ∈ cl, x ≠ 0 ∧ -(S : Int) ≤ x ∧ x ≤ (S : Int)) : ∀ (f : Nat) (T : List Int), Tk S T → Tk S (unF f cs T).1
  | 0, T, h => h
  | f + 1, T, h => by
    rw [unF]
    cases hf : cs.find? (dueB T) with
    | none => exact h
    | some cl =>
      simp only []
      cases ho : opn T cl with
      | nil => exact h
      | cons x t =>
        have hx : x ∈ opn T cl := by rw [ho]; simp
        obtain ⟨h1, h2, h3⟩ := opn_mem.1 hx
        exact unF_tk hc f _ (h.snoc (hc cl (List.mem_of_find?_eq_some hf) x h1) h2 h3)
theorem unitR_ok (S : Int) (cs : List (List Int)) (set : List Int) : (unitR S cs set).1.length ≤ 1048576 ∧ ∀ x ∈ (unitR S cs set).1, in64 x := by
  unfold unitR
  split
  · rename_i h
    obtain ⟨h1, h2, h3, h4⟩ := cnfR_parts h.1
    obtain ⟨S, rfl⟩ : ∃ S' : Nat, S = (S' : Int) := ⟨S.toNat, by omega⟩
    have h5 := unF_tk (fun cl hcl => (h4 cl hcl).2.2) ((S : Int).toNat + 1) set (setR_tk.1 h.2)
    refine ⟨by have := h5.len; omega, fun x hx => ?_⟩
    have := h5.num x hx
    unfold in64
    omega
  · exact ⟨by simp, by simp⟩

set_option maxHeartbeats 4000000 in
set_option maxRecDepth 100000 in
theorem law_yes_FnExactUnit (S : Int) (hS : in64 S) (b : Option Addr) (n c : Nat) (d : Option Addr) (m c2 : Nat) (xs : List Iw) (vs : List Int) (w : World) (hT : TabAt 0 Lib.deBruijn64tab w) (h0 : 0 < w.heap.size) (hs : RdII w b xs) (hn : xs.length = n) (hv : RdI w d vs) (hm : vs.length = m) (Z : Int) (hZ : 0 ≤ Z)
    (HSZ : Hid (∀ u, Below w.heap.size w u → Calls Tryd.prog 7 #[.agg #[.int .i64 S, .slice b n c], .int .i64 1048576] u fun e w' => e = .returned (.int .i64 Z) ∧ Below u.heap.size u w')) :
    Calls Tryd.prog 3 #[.agg #[.int .i64 S, .slice b n c], .slice d m c2] w fun e w' => e = .returned (.bool true) ∧ Below w.heap.size w w' := by
  have HTC := kide (fun u (hu : Below w.heap.size w u) => toCnf_own S b c xs u (hs.later hu) n hn)
  have HTV := kide (fun u (hu : Below w.heap.size w u) => toInt64S_ti d c2 m vs u (hv.later hu) hm)
  obtain ⟨hO1, hO2⟩ := unitR_ok S (xs.map Iw.ks) vs
  have hm2 := hv.1
  rw [hm] at hm2
  have hnn := hs.1
  rw [hn] at hnn
  have HN := kide hn
  have HM := kide hm
  have HSP : Hid (∀ u (g gd : Nat) (ms : List Iw), RdII u (some ⟨g, 0, none⟩) ms → ms.map Iw.ks = xs.map Iw.ks → RdI u (some ⟨gd, 0, none⟩) vs → Calls Tryd.prog 8 #[.agg #[.int .i64 S, .slice (some ⟨g, 0, none⟩) n n], .slice (some ⟨gd, 0, none⟩) m m] u (RetUn (unitR S (xs.map Iw.ks) vs) u)) := fun u g gd ms h1 e1 h2 => by
    have h := specUnit_any S (some ⟨g, 0, none⟩) (some ⟨gd, 0, none⟩) n n m m ms vs u hS h1 (len_of_ks e1 HN.out) h2 HM.out (fun h => by cases h) (Nat.le_refl _)
    rw [e1] at h
    exact h
  have HIM : Hid (∀ u (g gd : Nat) (ms : List Iw), Below w.heap.size w u → RdII u (some ⟨g, 0, none⟩) ms → ms.map Iw.ks = xs.map Iw.ks → (∀ x ∈ ms, x.ks.length ≤ x.c) → RdI u (some ⟨gd, 0, none⟩) vs → Calls Tryd.prog 11 #[.agg #[.int .i64 S, .slice (some ⟨g, 0, none⟩) n n], .slice (some ⟨gd, 0, none⟩) m m] u (RetUn (unitR S (xs.map Iw.ks) vs) u)) := fun u g gd ms hu h1 e1 hcp h2 => by
    have h := implUnit_any S (some ⟨g, 0, none⟩) (some ⟨gd, 0, none⟩) n n m m ms vs u hS h1 (len_of_ks e1 HN.out) hcp h2 HM.out (fun j hj => (hu.cell (p := ⟨0, j, none⟩) h0).trans (hT j hj)) (Nat.lt_of_lt_of_le h0 hu.size) newWatcher_said
    rw [e1] at h
    exact h
  have HEV : Hid (∀ u (a b : Option Addr), RdI u a vs → RdI u b vs → Calls Tryd.prog 12 #[.slice a m m, .slice b m m] u fun e w' => e = .returned (.bool true) ∧ Below u.heap.size u w') := fun u a b h1 h2 => by
    have h := eqInt64S_any a b m m vs vs u h1 h2
    rw [HM.out, decide_eq_true rfl] at h
    exact h
  generalize unitR S (xs.map Iw.ks) vs = X at *
  clear hs hn hv hm hT h0
  obtain ⟨Y, xb⟩ := X
  simp only at hO1 hO2 HSP HIM
  have hXX : (!xb == xb) = false := by cases xb <;> rfl
  have hXX2 : (xb != xb) = false := by cases xb <;> rfl
  obtain ⟨ny, hny⟩ : ∃ ny, Y.length = ny := ⟨_, rfl⟩
  have HNY := kide hny
  have hny2 : ny ≤ 1048576 := by rw [← hny]; exact hO1
  have HO1 := kide hO1
  have HO2 := kide hO2
  clear hny hO1 hO2
  go_enter Tryd.func3, Tryd.ntmps3
  have B0 := kide (Below.refl w.heap.size w)
  go_wp2_with fail
  have hb : Below w.heap.size w (w.alloc (Obj.cells #[.int .i64 S, .slice b n c] 24)) := (Below.refl _ _).alloc (Nat.le_refl _) _
  have B1 := kide (B0.out.trans (hb.mono B0.out.size))
  have z1 : w.heap.size < (w.alloc (Obj.cells #[.int .i64 S, .slice b n c] 24)).heap.size := by simp
  have CB1 := kide (Bz.new w #[.int .i64 S, .slice b n c] 24)
  clear hb B0
  generalize w.alloc (Obj.cells #[.int .i64 S, .slice b n c] 24) = w1 at *
  refine Calls.mono (HSZ.out _ B1.out) ?_
  rintro e w2 ⟨rfl, hb⟩
  have B2 := kide (B1.out.trans (hb.mono B1.out.size))
  have z2 : w1.heap.size ≤ w2.heap.size := hb.size
  have CB2 := kide (CB1.out.later hb)
  clear hb B1 CB1
  have k0 : w2.cell? ⟨w.heap.size, 0, none⟩ = some (.int .i64 S) := CB2.out.cell 0
  have k1 : w2.cell? ⟨w.heap.size, 1, none⟩ = some (.slice b n c) := CB2.out.cell 1
  go_wp2_with fail
  refine Calls.mono (HTC.out _ B2.out) ?_
  rintro e w3 ⟨g3, m3, rfl, e3, r, -, -, hb⟩
  have B3 := kide (B2.out.trans (hb.mono B2.out.size))
  have z3 : w2.heap.size ≤ w3.heap.size := hb.size
  have CB3 := kide (CB2.out.later hb)
  have RC3 := kide r
  have E3 := kide e3
  clear r e3 k0 k1
  clear hb B2 CB2
  go_wp2_with fail
  refine Calls.mono (HTV.out _ B3.out) ?_
  rintro e w4 ⟨rfl, r, -, hb⟩
  have B4 := kide (B3.out.trans (hb.mono B3.out.size))
  have z4 : w3.heap.size ≤ w4.heap.size := hb.size
  have CB4 := kide (CB3.out.later hb)
  have RC4 := kide (RC3.out.later hb)
  have RV4 := kide r
  clear r
  clear hb B3 CB3 RC3
  go_wp2_with fail
  refine Calls.mono (HSP.out w4 _ _ m3 RC4.out E3.out RV4.out) ?_
  rintro e w5 ⟨v5, rfl, o5, hb⟩
  have B5 := kide (B4.out.trans (hb.mono B4.out.size))
  have z5 : w4.heap.size ≤ w5.heap.size := hb.size
  have CB5 := kide (CB4.out.later hb)
  obtain ⟨a5, c5, rfl, hh5⟩ := o5.hold HO1.out HO2.out
  simp only [] at hh5 ⊢
  rw [HNY.out] at hh5 ⊢
  have S5 := kide hh5
  clear o5 hh5
  clear E3
  clear hb B4 CB4 RC4 RV4
  have k0 : w5.cell? ⟨w.heap.size, 0, none⟩ = some (.int .i64 S) := CB5.out.cell 0
  have k1 : w5.cell? ⟨w.heap.size, 1, none⟩ = some (.slice b n c) := CB5.out.cell 1
  go_wp2_with fail
  refine Calls.mono (HTC.out _ B5.out) ?_
  rintro e w6 ⟨g6, m6, rfl, e6, r, q, cp, hb⟩
  have B6 := kide (B5.out.trans (hb.mono B5.out.size))
  have z6 : w5.heap.size ≤ w6.heap.size := hb.size
  have CB6 := kide (CB5.out.later hb)
  have S6 := kide (S5.out.later hb)
  have RC6 := kide r
  have QC6 := kide q
  have E6 := kide e6
  have CP6 := kide cp
  clear r q e6 cp k0 k1
  clear hb B5 CB5 S5
  go_wp2_with fail
  have hb : Below w6.heap.size w6 (w6.alloc (Obj.cells #[.int .i64 S, .slice (some ⟨g6, 0, none⟩) n n] 29)) := (Below.refl _ _).alloc (Nat.le_refl _) _
  have B7 := kide (B6.out.trans (hb.mono B6.out.size))
  have z7 : w6.heap.size < (w6.alloc (Obj.cells #[.int .i64 S, .slice (some ⟨g6, 0, none⟩) n n] 29)).heap.size := by simp
  have CB7 := kide (CB6.out.later hb)
  have S7 := kide (S6.out.later hb)
  have RC7 := kide (RC6.out.later hb)
  have QC7 := kide (QC6.out.later hb)
  have XB7 := kide (Bz.new w6 #[.int .i64 S, .slice (some ⟨g6, 0, none⟩) n n] 29)
  clear hb B6 CB6 S6 RC6 QC6
  generalize w6.alloc (Obj.cells #[.int .i64 S, .slice (some ⟨g6, 0, none⟩) n n] 29) = w7 at *
  refine Calls.mono (HTV.out _ B7.out) ?_
  rintro e w8 ⟨rfl, r, q, hb⟩
  have B8 := kide (B7.out.trans (hb.mono B7.out.size))
  have z8 : w7.heap.size ≤ w8.heap.size := hb.size
  have CB8 := kide (CB7.out.later hb)
  have S8 := kide (S7.out.later hb)
  have RC8 := kide (RC7.out.later hb)
  have QC8 := kide (QC7.out.later hb)
  have XB8 := kide (XB7.out.later hb)
  have RV8 := kide r
  have QV8 := kide q
  clear r q
  clear hb B7 CB7 S7 RC7 QC7 XB7
  have j0 : w8.cell? ⟨w6.heap.size, 0, none⟩ = some (.int .i64 S) := XB8.out.cell 0
  have j1 : w8.cell? ⟨w6.heap.size, 1, none⟩ = some (.slice (some ⟨g6, 0, none⟩) n n) := XB8.out.cell 1
  go_wp2_with fail
  refine Calls.mono (HIM.out w8 _ _ m6 B8.out RC8.out E6.out CP6.out RV8.out) ?_
  rintro e w9 ⟨v9, rfl, o9, hb⟩
  have B9 := kide (B8.out.trans (hb.mono B8.out.size))
  have z9 : w8.heap.size ≤ w9.heap.size := hb.size
  have CB9 := kide (CB8.out.later hb)
  have S9 := kide (S8.out.later hb)
  have RC9 := kide (RC8.out.later hb)
  have QC9 := kide (QC8.out.later hb)
  have XB9 := kide (XB8.out.later hb)
  have RV9 := kide (RV8.out.later hb)
  have QV9 := kide (QV8.out.out (Out.ofB (B1 := w8.heap.size) (B2 := w8.heap.size) hb) (.inl (Nat.le_refl _)))
  obtain ⟨a9, c9, rfl, hh9⟩ := o9.hold HO1.out HO2.out
  simp only [] at hh9 ⊢
  rw [HNY.out] at hh9 ⊢
  have G9 := kide hh9
  clear o9 hh9
  clear j0 j1
  clear hb B8 CB8 S8 RC8 QC8 XB8 RV8 QV8
  go_wp2_with fail
  refine Calls.mono (eqInt64S_hold _ _ c9 c5 ny _ _ _ _ Y w9 G9.out S9.out) ?_
  rintro e w10 ⟨rfl, hb⟩
  have B10 := kide (B9.out.trans (hb.mono B9.out.size))
  have z10 : w9.heap.size ≤ w10.heap.size := hb.size
  have CB10 := kide (CB9.out.later hb)
  have S10 := kide (S9.out.later hb)
  have RC10 := kide (RC9.out.later hb)
  have QC10 := kide (QC9.out.later hb)
  have XB10 := kide (XB9.out.later hb)
  have RV10 := kide (RV9.out.later hb)
  have QV10 := kide (QV9.out.out (Out.ofB (B1 := w8.heap.size) (B2 := w8.heap.size) hb) (.inl (Nat.le_refl _)))
  have G10 := kide (G9.out.later hb)
  clear hb B9 CB9 S9 RC9 QC9 XB9 RV9 QV9 G9
  have k0 : w10.cell? ⟨w.heap.size, 0, none⟩ = some (.int .i64 S) := CB10.out.cell 0
  have k1 : w10.cell? ⟨w.heap.size, 1, none⟩ = some (.slice b n c) := CB10.out.cell 1
  have j0 : w10.cell? ⟨w6.heap.size, 0, none⟩ = some (.int .i64 S) := XB10.out.cell 0
  have j1 : w10.cell? ⟨w6.heap.size, 1, none⟩ = some (.slice (some ⟨g6, 0, none⟩) n n) := XB10.out.cell 1
  go_wp2_with fail
  go_region_held3 (fun u => u.cell? ⟨w.heap.size, 0, none⟩ = some (Value.int .i64 S) ∧ u.cell? ⟨w.heap.size, 1, none⟩ = some (Value.slice b n c) ∧ u.cell? ⟨w6.heap.size, 0, none⟩ = some (Value.int .i64 S) ∧ u.cell? ⟨w6.heap.size, 1, none⟩ = some (Value.slice (some ⟨g6, 0, none⟩) n n)) (simp [*])
    (first
      | (go_at_call 9; refine Calls.mono (HTC.out _ ?_) ?_; exact B10.out.drew; rintro e w11 ⟨g11, m11, rfl, e11, r11, -, -, hb11⟩; replace hb11 := kundrew hb11; have z11 : w10.heap.size ≤ w11.heap.size := hb11.size; have B11 := kide (B10.out.trans (hb11.mono B10.out.size)); have CB11 := kide (CB10.out.later hb11); have S11 := kide (S10.out.later hb11); have RC11 := kide (RC10.out.later hb11); have QC11 := kide (QC10.out.later hb11); have XB11 := kide (XB10.out.later hb11); have RV11 := kide (RV10.out.later hb11); have QV11 := kide (QV10.out.out (Out.ofB (B1 := w8.heap.size) (B2 := w8.heap.size) hb11) (.inl (Nat.le_refl _))); have G11 := kide (G10.out.later hb11); have HE11 := kide (eqCnf_same S _ _ n n m6 m11 w11 RC11.out r11 (E6.out.trans e11.symm) n (len_of_ks E6.out HN.out) (len_of_ks e11 HN.out)); have x0 : w11.cell? ⟨w.heap.size, 0, none⟩ = some (.int .i64 S) := CB11.out.cell 0; have x1 : w11.cell? ⟨w.heap.size, 1, none⟩ = some (.slice b n c) := CB11.out.cell 1; have y0 : w11.cell? ⟨w6.heap.size, 0, none⟩ = some (.int .i64 S) := XB11.out.cell 0; have y1 : w11.cell? ⟨w6.heap.size, 1, none⟩ = some (.slice (some ⟨g6, 0, none⟩) n n) := XB11.out.cell 1; clear e11 r11 hb11)
      | (go_at_call 13; refine Calls.mono HE11.out ?_; rintro e w12 ⟨rfl, hb12⟩; have z12 : w11.heap.size ≤ w12.heap.size := hb12.size; have B12 := kide (B11.out.trans (hb12.mono B11.out.size)); have CB12 := kide (CB11.out.later hb12); have S12 := kide (S11.out.later hb12); have QC12 := kide (QC11.out.later hb12); have XB12 := kide (XB11.out.later hb12); have RV12 := kide (RV11.out.later hb12); have QV12 := kide (QV11.out.out (Out.ofB (B1 := w8.heap.size) (B2 := w8.heap.size) hb12) (.inl (Nat.le_refl _))); have G12 := kide (G11.out.later hb12); have x20 : w12.cell? ⟨w.heap.size, 0, none⟩ = some (.int .i64 S) := CB12.out.cell 0; have x21 : w12.cell? ⟨w.heap.size, 1, none⟩ = some (.slice b n c) := CB12.out.cell 1; have y20 : w12.cell? ⟨w6.heap.size, 0, none⟩ = some (.int .i64 S) := XB12.out.cell 0; have y21 : w12.cell? ⟨w6.heap.size, 1, none⟩ = some (.slice (some ⟨g6, 0, none⟩) n n) := XB12.out.cell 1))
  clear k0 k1 j0 j1 x0 x1 y0 y1 x20 x21 y20 y21 hb12 HE11 B10 B11 CB10 CB11 S10 S11 RC10 RC11 QC10 QC11 XB10 XB11 RV10 RV11 QV10 QV11 G10 G11
  go_wp2_with fail
  refine Calls.mono (HTV.out _ B12.out) ?_
  rintro e w13 ⟨rfl, r, -, hb⟩
  have B13 := kide (B12.out.trans (hb.mono B12.out.size))
  have z13 : w12.heap.size ≤ w13.heap.size := hb.size
  have CB13 := kide (CB12.out.later hb)
  have S13 := kide (S12.out.later hb)
  have QC13 := kide (QC12.out.later hb)
  have XB13 := kide (XB12.out.later hb)
  have RV13 := kide (RV12.out.later hb)
  have QV13 := kide (QV12.out.out (Out.ofB (B1 := w8.heap.size) (B2 := w8.heap.size) hb) (.inl (Nat.le_refl _)))
  have G13 := kide (G12.out.later hb)
  have P13 := kide r
  clear r
  clear hb B12 CB12 S12 QC12 XB12 RV12 QV12 G12
  go_wp2_with fail
  refine Calls.mono (HEV.out _ _ _ RV13.out P13.out) ?_
  rintro e w14 ⟨rfl, hb⟩
  have B14 := kide (B13.out.trans (hb.mono B13.out.size))
  have z14 : w13.heap.size ≤ w14.heap.size := hb.size
  have CB14 := kide (CB13.out.later hb)
  have S14 := kide (S13.out.later hb)
  have QC14 := kide (QC13.out.later hb)
  have XB14 := kide (XB13.out.later hb)
  have QV14 := kide (QV13.out.out (Out.ofB (B1 := w8.heap.size) (B2 := w8.heap.size) hb) (.inl (Nat.le_refl _)))
  have G14 := kide (G13.out.later hb)
  clear hb B13 CB13 S13 QC13 XB13 QV13 G13 RV13 P13
  have j0 : w14.cell? ⟨w6.heap.size, 0, none⟩ = some (.int .i64 S) := XB14.out.cell 0
  have j1 : w14.cell? ⟨w6.heap.size, 1, none⟩ = some (.slice (some ⟨g6, 0, none⟩) n n) := XB14.out.cell 1
  go_wp2_with fail
  refine Calls.mono (markCnf_ty S _ _ g6 n n 1 m6 w14 QC14.out (len_of_ks E6.out HN.out) hnn (by omega)) ?_
  rintro e w15 ⟨⟨K1, hK1, rfl⟩, ho⟩
  have B15 := kide (Out.bel B14.out ho (by omega))
  have z15 : w14.heap.size ≤ w15.heap.size := ho.2.2.2.1
  have CB15 := kide (bz_out CB14.out ho (by omega))
  have S15 := kide (S14.out.out ho (by omega))
  have XB15 := kide (bz_out XB14.out ho (by omega))
  have QV15 := kide (QV14.out.out ho (by omega))
  have G15 := kide (G14.out.out ho (by omega))
  clear j0 j1
  clear ho B14 CB14 S14 XB14 QV14 G14 QC14
  go_wp2_with fail
  refine Calls.mono (markInt64S_ti w7.heap.size w8.heap.size m m K1 _ w15 QV15.out hm2 hK1) ?_
  rintro e w16 ⟨rfl, ho⟩
  have B16 := kide (Out.bel B15.out ho (by omega))
  have z16 : w15.heap.size ≤ w16.heap.size := ho.2.2.2.1
  have CB16 := kide (bz_out CB15.out ho (by omega))
  have S16 := kide (S15.out.out ho (by omega))
  have XB16 := kide (bz_out XB15.out ho (by omega))
  have G16 := kide (G15.out.out ho (by omega))
  obtain ⟨K2, hK2⟩ : ∃ K2 : Nat, K1 + m = K2 := ⟨_, rfl⟩
  rw [hK2]
  have hK2b : ¬ (K2 : Int) < 0 := by omega
  clear hK2
  clear ho B15 CB15 S15 XB15 G15 QV15
  go_wp2_with fail
  refine Calls.mono (eqInt64S_hold _ _ c9 c5 ny _ _ _ _ Y w16 G16.out S16.out) ?_
  rintro e w17 ⟨rfl, hb⟩
  have B17 := kide (B16.out.trans (hb.mono B16.out.size))
  have z17 : w16.heap.size ≤ w17.heap.size := hb.size
  have CB17 := kide (CB16.out.later hb)
  have S17 := kide (S16.out.later hb)
  have XB17 := kide (XB16.out.later hb)
  have G17 := kide (G16.out.later hb)
  clear hb B16 CB16 S16 XB16 G16
  go_wp2_with fail
  refine Calls.mono (markInt64S_hold a9 c9 ny _ _ Y w17 G17.out) ?_
  rintro e w18 ⟨rfl, hh, ho⟩
  have B18 := kide (Out.bel B17.out ho (by omega))
  have z18 : w17.heap.size ≤ w18.heap.size := ho.2.2.2.1
  have CB18 := kide (bz_out CB17.out ho (by omega))
  have S18 := kide (S17.out.out ho (by omega))
  have XB18 := kide (bz_out XB17.out ho (by omega))
  have HH18 := kide hh
  obtain ⟨V, hV⟩ : ∃ V, 1 + ny = V := ⟨_, rfl⟩
  have HVV := kide (fun u (hu : MkI u a9 ny) => heldInt64S_mk a9 c9 ny u hu (by omega))
  rw [hV] at HVV
  rw [hV]
  have hv0 : ¬ (V : Int) < 0 := by omega
  have hvv : ((V : Int) != (V : Int)) = false := by simp
  clear hh hV
  clear ho B17 CB17 S17 XB17 G17
  go_wp2_with fail
  refine Calls.mono (HVV.out w18 HH18.out) ?_
  rintro e wq ⟨rfl, hwq⟩
  obtain rfl := hwq.symm
  clear hwq
  have k0 : w18.cell? ⟨w.heap.size, 0, none⟩ = some (.int .i64 S) := CB18.out.cell 0
  have k1 : w18.cell? ⟨w.heap.size, 1, none⟩ = some (.slice b n c) := CB18.out.cell 1
  go_wp2_with fail
  refine Calls.mono (HTC.out _ B18.out) ?_
  rintro e w19 ⟨g19, m19, rfl, e19, r, -, cp, hb⟩
  have B19 := kide (B18.out.trans (hb.mono B18.out.size))
  have z19 : w18.heap.size ≤ w19.heap.size := hb.size
  have CB19 := kide (CB18.out.later hb)
  have S19 := kide (S18.out.later hb)
  have XB19 := kide (XB18.out.later hb)
  have HH19 := kide (HH18.out.later hb)
  have RC19 := kide r
  have E19 := kide e19
  have CP19 := kide cp
  clear r e19 cp k0 k1
  clear hb B18 CB18 S18 XB18 HH18
  go_wp2_with fail
  refine Calls.mono (HTV.out _ B19.out) ?_
  rintro e w20 ⟨rfl, r, -, hb⟩
  have B20 := kide (B19.out.trans (hb.mono B19.out.size))
  have z20 : w19.heap.size ≤ w20.heap.size := hb.size
  have CB20 := kide (CB19.out.later hb)
  have S20 := kide (S19.out.later hb)
  have XB20 := kide (XB19.out.later hb)
  have HH20 := kide (HH19.out.later hb)
  have RC20 := kide (RC19.out.later hb)
  have RV20 := kide r
  clear r
  clear hb B19 CB19 S19 XB19 HH19 RC19
  go_wp2_with fail
  refine Calls.mono (HIM.out w20 _ _ m19 B20.out RC20.out E19.out CP19.out RV20.out) ?_
  rintro e w21 ⟨v21, rfl, o21, hb⟩
  have B21 := kide (B20.out.trans (hb.mono B20.out.size))
  have z21 : w20.heap.size ≤ w21.heap.size := hb.size
  have CB21 := kide (CB20.out.later hb)
  have S21 := kide (S20.out.later hb)
  have XB21 := kide (XB20.out.later hb)
  have HH21 := kide (HH20.out.later hb)
  obtain ⟨a21, c21, rfl, hh21⟩ := o21.hold HO1.out HO2.out
  simp only [] at hh21 ⊢
  rw [HNY.out] at hh21 ⊢
  have H21 := kide hh21
  clear o21 hh21
  clear hb B20 CB20 S20 XB20 HH20 RC20 RV20
  go_wp2_with fail
  refine Calls.mono (eqInt64S_hold _ _ c21 c5 ny _ _ _ _ Y w21 H21.out S21.out) ?_
  rintro e w22 ⟨rfl, hb⟩
  have B22 := kide (B21.out.trans (hb.mono B21.out.size))
  have z22 : w21.heap.size ≤ w22.heap.size := hb.size
  have CB22 := kide (CB21.out.later hb)
  have XB22 := kide (XB21.out.later hb)
  have HH22 := kide (HH21.out.later hb)
  clear hb B21 CB21 XB21 HH21 H21 S21
  go_wp2_with fail
  refine Calls.mono (HVV.out w22 HH22.out) ?_
  rintro e wq ⟨rfl, hwq⟩
  obtain rfl := hwq.symm
  clear hwq
  go_wp2_with fail
  go_ret
  exact ⟨rfl, B22.out⟩

theorem law_no_FnExactUnit (S : Int) (b : Option Addr) (n c : Nat) (d : Option Addr) (m c2 : Nat) (hl2 : m ≤ 1048576) (w : World) (Z : Int) (hZ : Z < 0)
    (HSZ : Hid (∀ u, Below w.heap.size w u → Calls Tryd.prog 7 #[.agg #[.int .i64 S, .slice b n c], .int .i64 1048576] u fun e w' => e = .returned (.int .i64 Z) ∧ Below u.heap.size u w')) :
    Calls Tryd.prog 3 #[.agg #[.int .i64 S, .slice b n c], .slice d m c2] w fun e w' => e = .returned (.bool true) ∧ Below w.heap.size w w' := by
  have s0 := St.start w (.cells #[.int .i64 S, .slice b n c] 24)
  go_enter Tryd.func3, Tryd.ntmps3
  go_wp2_with fail
  refine Calls.mono (HSZ.out _ s0.below) ?_
  rintro e w1 ⟨rfl, hb1⟩
  have s1 := s0.next hb1
  go_wp2_with fail
  go_ret
  exact ⟨rfl, s1.below⟩

theorem law_long_FnExactUnit (S : Int) (b : Option Addr) (n c : Nat) (d : Option Addr) (m c2 : Nat) (hl2 : ¬ m ≤ 1048576) (hm : m ≤ 9223372036854775807) (w : World) :
    Calls Tryd.prog 3 #[.agg #[.int .i64 S, .slice b n c], .slice d m c2] w fun e w' => e = .returned (.bool true) ∧ Below w.heap.size w w' := by
  have s0 := St.start w (.cells #[.int .i64 S, .slice b n c] 24)
  go_enter Tryd.func3, Tryd.ntmps3
  go_wp2_with fail
  go_ret
  exact ⟨rfl, s0.below⟩

theorem walk_FnExactUnit (S : Int) (b : Option Addr) (n c : Nat) (hS : in64 S) (hn : n ≤ 9223372036854775807) (d : Option Addr) (m c2 : Nat) (hm : m ≤ 9223372036854775807) (w : World) (hT : TabAt 0 Lib.deBruijn64tab w)
    (hy : n ≤ 1048576 → ∃ hs : List Ih, hs.length = n ∧ RdIh w b hs ∧ ∀ h ∈ hs, NumsOf w h) (hx : m ≤ 1048576 → ∃ ks : List Int, ks.length = m ∧ RdI w d ks) :
    Calls Tryd.prog 3 #[.agg #[.int .i64 S, .slice b n c], .slice d m c2] w fun e w' => e = .returned (.bool true) ∧ Below w.heap.size w w' := by
  have h0 : 0 < w.heap.size := block_lt_of_cell (hT 0 (by decide))
  by_cases h2 : m ≤ 1048576
  · obtain ⟨vs, hvl, hv⟩ := hx h2
    obtain ⟨Z, HSZ, -, hneg | ⟨hpos, xs, hxl, hr⟩⟩ := size_cnf S b n c w hn hy
    · exact law_no_FnExactUnit S b n c d m c2 h2 w Z hneg HSZ
    · exact law_yes_FnExactUnit S hS b n c d m c2 xs vs w hT h0 hr hxl hv hvl Z hpos HSZ
  · exact law_long_FnExactUnit S b n c d m c2 h2 hm w

end Go.Proofs.YtmfamdonbgmjbaaDoor
