/- The law FnExactSettle returns true, whatever it is handed. -/
import Derived.Test.YtmfamdonbgmjbaaDoorSVK
import Derived.Test.YtmfamdonbgmjbaaDoorSVM
import Derived.Test.YtmfamdonbgmjbaaDoorUNW
import Derived.Test.YtmfamdonbgmjbaaDoorUOA
import Derived.Test.YtmfamdonbgmjbaaDoorZGAJ
namespace Go.Proofs.YtmfamdonbgmjbaaDoor
set_option linter.unusedVariables false
set_option linter.unusedSimpArgs false
open Go.RowKit

theorem len_of_ks9 {ms xs : List Iw} {n : Nat} (h : ms.map Iw.ks = xs.map Iw.ks) (hn : xs.length = n) : ms.length = n := by
  have := congrArg List.length h
  simp at this
  rw [this]; exact hn
theorem newWatcher_said9 : NewWatcherAny := fun _ _ _ _ _ xs h1 h2 h3 h4 h5 h6 => newWatcher_any xs h1 h2 h3 h4 h5 h6
theorem setlR_ok (S : Int) (cs : List (List Int)) (most : Int) : (setlR S cs most).1.length ≤ 1048576 := by
  unfold setlR
  split
  · rename_i h
    obtain ⟨h1, h2, -, -⟩ := cnfR_parts h.1
    split
    · simp only [flV_len]; omega
    · simp
  · simp

set_option maxHeartbeats 4000000 in
set_option maxRecDepth 100000 in
theorem law_yes_FnExactSettle (S : Int) (hS : in64 S) (b : Option Addr) (n c : Nat) (most : Int) (hmo : in64 most) (xs : List Iw) (w : World) (hT : TabAt 0 Lib.deBruijn64tab w) (h0 : 0 < w.heap.size) (hs : RdII w b xs) (hn : xs.length = n) (Z : Int) (hZ : 0 ≤ Z)
    (HSZ : Hid (∀ u, Below w.heap.size w u → Calls Tryd.prog 7 #[.agg #[.int .i64 S, .slice b n c], .int .i64 1048576] u fun e w' => e = .returned (.int .i64 Z) ∧ Below u.heap.size u w')) :
    Calls Tryd.prog 4 #[.agg #[.int .i64 S, .slice b n c], .int .i64 most] w fun e w' => e = .returned (.bool true) ∧ Below w.heap.size w w' := by
  have HTC := kide (fun u (hu : Below w.heap.size w u) => toCnf_own S b c xs u (hs.later hu) n hn)
  have hO1 := setlR_ok S (xs.map Iw.ks) most
  have hnn := hs.1
  rw [hn] at hnn
  have HN := kide hn
  have HSP : Hid (∀ u (g : Nat) (ms : List Iw), RdII u (some ⟨g, 0, none⟩) ms → ms.map Iw.ks = xs.map Iw.ks → Calls Tryd.prog 17 #[.agg #[.int .i64 S, .slice (some ⟨g, 0, none⟩) n n], .int .i64 most] u (RetSe (setlR S (xs.map Iw.ks) most) u)) := fun u g ms h1 e1 => by
    have h := specSettle_any S (some ⟨g, 0, none⟩) n n ms most u hS hmo h1 (len_of_ks9 e1 HN.out)
    rw [e1] at h
    exact h
  have HIM : Hid (∀ u (g : Nat) (ms : List Iw), Below w.heap.size w u → RdII u (some ⟨g, 0, none⟩) ms → ms.map Iw.ks = xs.map Iw.ks → (∀ x ∈ ms, x.ks.length ≤ x.c) → Calls Tryd.prog 18 #[.agg #[.int .i64 S, .slice (some ⟨g, 0, none⟩) n n], .int .i64 most] u (RetSe (setlR S (xs.map Iw.ks) most) u)) := fun u g ms hu h1 e1 hcp => by
    have h := implSettle_any S (some ⟨g, 0, none⟩) n n ms most u hS hmo h1 (len_of_ks9 e1 HN.out) hcp (fun j hj => (hu.cell (p := ⟨0, j, none⟩) h0).trans (hT j hj)) (Nat.lt_of_lt_of_le h0 hu.size) newWatcher_said9
    rw [e1] at h
    exact h
  generalize setlR S (xs.map Iw.ks) most = X at *
  clear hs hn hT h0 hmo
  obtain ⟨Y, P, Q9⟩ := X
  simp only at hO1 HSP HIM
  have hPP : (P != P) = false := by simp
  have hQQ : (Q9 != Q9) = false := by simp
  obtain ⟨ny, hny⟩ : ∃ ny, Y.length = ny := ⟨_, rfl⟩
  have HNY := kide hny
  have hny2 : ny ≤ 1048576 := by rw [← hny]; exact hO1
  clear hny hO1
  go_enter Tryd.func4, Tryd.ntmps4
  have B0 := kide (Below.refl w.heap.size w)
  go_wp2_with fail
  have hb : Below w.heap.size w (w.alloc (Obj.cells #[.int .i64 S, .slice b n c] 24)) := (Below.refl _ _).alloc (Nat.le_refl _) _
  have B1 := kide (B0.out.trans (hb.mono B0.out.size))
  have z1 : w.heap.size < (w.alloc (Obj.cells #[.int .i64 S, .slice b n c] 24)).heap.size := by simp
  have CB1 := kide (Bz.new w #[.int .i64 S, .slice b n c] 24)
  clear hb B0
  generalize w.alloc (Obj.cells #[.int .i64 S, .slice b n c] 24) = w1 at *
  refine Calls.mono (HSZ.out _ B1.out) ?_
  rintro e w2 ⟨rfl, hb⟩
  have B2 := kide (B1.out.trans (hb.mono B1.out.size))
  have z2 : w1.heap.size ≤ w2.heap.size := hb.size
  have CB2 := kide (CB1.out.later hb)
  clear hb B1 CB1
  have k0 : w2.cell? ⟨w.heap.size, 0, none⟩ = some (.int .i64 S) := CB2.out.cell 0
  have k1 : w2.cell? ⟨w.heap.size, 1, none⟩ = some (.slice b n c) := CB2.out.cell 1
  go_wp2_with fail
  refine Calls.mono (HTC.out _ B2.out) ?_
  rintro e w3 ⟨g3, m3, rfl, e3, r, -, -, hb⟩
  have B3 := kide (B2.out.trans (hb.mono B2.out.size))
  have z3 : w2.heap.size ≤ w3.heap.size := hb.size
  have CB3 := kide (CB2.out.later hb)
  have RC3 := kide r
  have E3 := kide e3
  clear r e3 k0 k1
  clear hb B2 CB2
  go_wp2_with fail
  refine Calls.mono (HSP.out w3 _ m3 RC3.out E3.out) ?_
  rintro e w4 ⟨v4, rfl, o4, hb⟩
  have B4 := kide (B3.out.trans (hb.mono B3.out.size))
  have z4 : w3.heap.size ≤ w4.heap.size := hb.size
  have CB4 := kide (CB3.out.later hb)
  obtain ⟨a4, c4, rfl, hh4⟩ := o4.hold (by rw [HNY.out]; exact hny2)
  rw [HNY.out] at hh4 ⊢
  have S4 := kide hh4
  clear o4 hh4
  clear E3
  clear hb B3 CB3 RC3
  have k0 : w4.cell? ⟨w.heap.size, 0, none⟩ = some (.int .i64 S) := CB4.out.cell 0
  have k1 : w4.cell? ⟨w.heap.size, 1, none⟩ = some (.slice b n c) := CB4.out.cell 1
  go_wp2_with fail
  refine Calls.mono (HTC.out _ B4.out) ?_
  rintro e w5 ⟨g5, m5, rfl, e5, r, q, cp, hb⟩
  have B5 := kide (B4.out.trans (hb.mono B4.out.size))
  have z5 : w4.heap.size ≤ w5.heap.size := hb.size
  have CB5 := kide (CB4.out.later hb)
  have S5 := kide (S4.out.later hb)
  have RC5 := kide r
  have QC5 := kide q
  have E5 := kide e5
  have CP5 := kide cp
  clear r q e5 cp k0 k1
  clear hb B4 CB4 S4
  go_wp2_with fail
  have hb : Below w5.heap.size w5 (w5.alloc (Obj.cells #[.int .i64 S, .slice (some ⟨g5, 0, none⟩) n n] 29)) := (Below.refl _ _).alloc (Nat.le_refl _) _
  have B6 := kide (B5.out.trans (hb.mono B5.out.size))
  have z6 : w5.heap.size < (w5.alloc (Obj.cells #[.int .i64 S, .slice (some ⟨g5, 0, none⟩) n n] 29)).heap.size := by simp
  have CB6 := kide (CB5.out.later hb)
  have S6 := kide (S5.out.later hb)
  have RC6 := kide (RC5.out.later hb)
  have QC6 := kide (QC5.out.later hb)
  have XB6 := kide (Bz.new w5 #[.int .i64 S, .slice (some ⟨g5, 0, none⟩) n n] 29)
  clear hb B5 CB5 S5 RC5 QC5
  generalize w5.alloc (Obj.cells #[.int .i64 S, .slice (some ⟨g5, 0, none⟩) n n] 29) = w6 at *
  have j0 : w6.cell? ⟨w5.heap.size, 0, none⟩ = some (.int .i64 S) := XB6.out.cell 0
  have j1 : w6.cell? ⟨w5.heap.size, 1, none⟩ = some (.slice (some ⟨g5, 0, none⟩) n n) := XB6.out.cell 1
  refine Calls.mono (HIM.out w6 _ m5 B6.out RC6.out E5.out CP5.out) ?_
  rintro e w7 ⟨v7, rfl, o7, hb⟩
  have B7 := kide (B6.out.trans (hb.mono B6.out.size))
  have z7 : w6.heap.size ≤ w7.heap.size := hb.size
  have CB7 := kide (CB6.out.later hb)
  have S7 := kide (S6.out.later hb)
  have RC7 := kide (RC6.out.later hb)
  have QC7 := kide (QC6.out.later hb)
  have XB7 := kide (XB6.out.later hb)
  obtain ⟨a7, c7, rfl, hh7⟩ := o7.hold (by rw [HNY.out]; exact hny2)
  rw [HNY.out] at hh7 ⊢
  have G7 := kide hh7
  clear o7 hh7
  clear j0 j1
  clear hb B6 CB6 S6 RC6 QC6 XB6
  go_wp2_with fail
  refine Calls.mono (eqBoolS_hold _ _ c7 c4 ny _ _ _ _ Y w7 G7.out S7.out) ?_
  rintro e w8 ⟨rfl, hb⟩
  have B8 := kide (B7.out.trans (hb.mono B7.out.size))
  have z8 : w7.heap.size ≤ w8.heap.size := hb.size
  have CB8 := kide (CB7.out.later hb)
  have S8 := kide (S7.out.later hb)
  have RC8 := kide (RC7.out.later hb)
  have QC8 := kide (QC7.out.later hb)
  have XB8 := kide (XB7.out.later hb)
  have G8 := kide (G7.out.later hb)
  clear hb B7 CB7 S7 RC7 QC7 XB7 G7
  have k0 : w8.cell? ⟨w.heap.size, 0, none⟩ = some (.int .i64 S) := CB8.out.cell 0
  have k1 : w8.cell? ⟨w.heap.size, 1, none⟩ = some (.slice b n c) := CB8.out.cell 1
  have j0 : w8.cell? ⟨w5.heap.size, 0, none⟩ = some (.int .i64 S) := XB8.out.cell 0
  have j1 : w8.cell? ⟨w5.heap.size, 1, none⟩ = some (.slice (some ⟨g5, 0, none⟩) n n) := XB8.out.cell 1
  go_wp2_with fail
  go_region_held3 (fun u => u.cell? ⟨w.heap.size, 0, none⟩ = some (Value.int .i64 S) ∧ u.cell? ⟨w.heap.size, 1, none⟩ = some (Value.slice b n c) ∧ u.cell? ⟨w5.heap.size, 0, none⟩ = some (Value.int .i64 S) ∧ u.cell? ⟨w5.heap.size, 1, none⟩ = some (Value.slice (some ⟨g5, 0, none⟩) n n)) (simp [*])
    (first
      | (go_at_call 9; refine Calls.mono (HTC.out _ ?_) ?_; exact B8.out.drew; rintro e w9 ⟨g9, m9, rfl, e9, r9, -, -, hb9⟩; replace hb9 := kundrew hb9; have z9 : w8.heap.size ≤ w9.heap.size := hb9.size; have B9 := kide (B8.out.trans (hb9.mono B8.out.size)); have CB9 := kide (CB8.out.later hb9); have S9 := kide (S8.out.later hb9); have RC9 := kide (RC8.out.later hb9); have QC9 := kide (QC8.out.later hb9); have XB9 := kide (XB8.out.later hb9); have G9 := kide (G8.out.later hb9); have HE9 := kide (eqCnf_same S _ _ n n m5 m9 w9 RC9.out r9 (E5.out.trans e9.symm) n (len_of_ks9 E5.out HN.out) (len_of_ks9 e9 HN.out)); have x0 : w9.cell? ⟨w.heap.size, 0, none⟩ = some (.int .i64 S) := CB9.out.cell 0; have x1 : w9.cell? ⟨w.heap.size, 1, none⟩ = some (.slice b n c) := CB9.out.cell 1; have y0 : w9.cell? ⟨w5.heap.size, 0, none⟩ = some (.int .i64 S) := XB9.out.cell 0; have y1 : w9.cell? ⟨w5.heap.size, 1, none⟩ = some (.slice (some ⟨g5, 0, none⟩) n n) := XB9.out.cell 1; clear e9 r9 hb9)
      | (go_at_call 13; refine Calls.mono HE9.out ?_; rintro e w10 ⟨rfl, hb10⟩; have z10 : w9.heap.size ≤ w10.heap.size := hb10.size; have B10 := kide (B9.out.trans (hb10.mono B9.out.size)); have CB10 := kide (CB9.out.later hb10); have S10 := kide (S9.out.later hb10); have QC10 := kide (QC9.out.later hb10); have XB10 := kide (XB9.out.later hb10); have G10 := kide (G9.out.later hb10); have x20 : w10.cell? ⟨w.heap.size, 0, none⟩ = some (.int .i64 S) := CB10.out.cell 0; have x21 : w10.cell? ⟨w.heap.size, 1, none⟩ = some (.slice b n c) := CB10.out.cell 1; have y20 : w10.cell? ⟨w5.heap.size, 0, none⟩ = some (.int .i64 S) := XB10.out.cell 0; have y21 : w10.cell? ⟨w5.heap.size, 1, none⟩ = some (.slice (some ⟨g5, 0, none⟩) n n) := XB10.out.cell 1))
  clear k0 k1 j0 j1 x0 x1 y0 y1 x20 x21 y20 y21 hb10 HE9 B8 B9 CB8 CB9 S8 S9 RC8 RC9 QC8 QC9 XB8 XB9 G8 G9
  have j0 : w10.cell? ⟨w5.heap.size, 0, none⟩ = some (.int .i64 S) := XB10.out.cell 0
  have j1 : w10.cell? ⟨w5.heap.size, 1, none⟩ = some (.slice (some ⟨g5, 0, none⟩) n n) := XB10.out.cell 1
  go_wp2_with fail
  refine Calls.mono (markCnf_ty S _ _ g5 n n 1 m5 w10 QC10.out (len_of_ks9 E5.out HN.out) hnn (by omega)) ?_
  rintro e w11 ⟨⟨K1, hK1, rfl⟩, ho⟩
  have B11 := kide (Out.bel B10.out ho (by omega))
  have z11 : w10.heap.size ≤ w11.heap.size := ho.2.2.2.1
  have CB11 := kide (bz_out CB10.out ho (by omega))
  have S11 := kide (S10.out.out ho (by omega))
  have XB11 := kide (bz_out XB10.out ho (by omega))
  have G11 := kide (G10.out.out ho (by omega))
  have hK2b : ¬ (K1 : Int) < 0 := by omega
  clear j0 j1
  clear ho B10 CB10 S10 XB10 G10 QC10
  go_wp2_with fail
  refine Calls.mono (eqBoolS_hold _ _ c7 c4 ny _ _ _ _ Y w11 G11.out S11.out) ?_
  rintro e w12 ⟨rfl, hb⟩
  have B12 := kide (B11.out.trans (hb.mono B11.out.size))
  have z12 : w11.heap.size ≤ w12.heap.size := hb.size
  have CB12 := kide (CB11.out.later hb)
  have S12 := kide (S11.out.later hb)
  have XB12 := kide (XB11.out.later hb)
  have G12 := kide (G11.out.later hb)
  clear hb B11 CB11 S11 XB11 G11
  go_wp2_with fail
  refine Calls.mono (markBoolS_hold a7 c7 ny _ _ Y w12 G12.out) ?_
  rintro e w13 ⟨rfl, hm, ho⟩
  have B13 := kide (Out.bel B12.out ho (by omega))
  have z13 : w12.heap.size ≤ w13.heap.size := ho.2.2.2.1
  have CB13 := kide (bz_out CB12.out ho (by omega))
  have S13 := kide (S12.out.out ho (by omega))
  have XB13 := kide (bz_out XB12.out ho (by omega))
  have HH13 := kide hm
  have HVV := kide (fun u (hu : MkF u a7 ny) => heldBoolS_mk a7 c7 ny u hu (by omega))
  obtain ⟨V, hV⟩ : ∃ V, 1 + ny = V := ⟨_, rfl⟩
  rw [hV] at HVV
  rw [hV]
  have hv0 : ¬ (V : Int) < 0 := by omega
  have hvv : ((V : Int) != (V : Int)) = false := by simp
  clear hm hV
  clear ho B12 CB12 S12 XB12 G12
  go_wp2_with fail
  refine Calls.mono (HVV.out w13 HH13.out) ?_
  rintro e wq ⟨rfl, hwq⟩
  obtain rfl := hwq.symm
  clear hwq
  have k0 : w13.cell? ⟨w.heap.size, 0, none⟩ = some (.int .i64 S) := CB13.out.cell 0
  have k1 : w13.cell? ⟨w.heap.size, 1, none⟩ = some (.slice b n c) := CB13.out.cell 1
  go_wp2_with fail
  refine Calls.mono (HTC.out _ B13.out) ?_
  rintro e w14 ⟨g14, m14, rfl, e14, r, -, cp, hb⟩
  have B14 := kide (B13.out.trans (hb.mono B13.out.size))
  have z14 : w13.heap.size ≤ w14.heap.size := hb.size
  have CB14 := kide (CB13.out.later hb)
  have S14 := kide (S13.out.later hb)
  have XB14 := kide (XB13.out.later hb)
  have HH14 := kide (HH13.out.later hb)
  have RC14 := kide r
  have E14 := kide e14
  have CP14 := kide cp
  clear r e14 cp k0 k1
  clear hb B13 CB13 S13 XB13 HH13
  go_wp2_with fail
  refine Calls.mono (HIM.out w14 _ m14 B14.out RC14.out E14.out CP14.out) ?_
  rintro e w15 ⟨v15, rfl, o15, hb⟩
  have B15 := kide (B14.out.trans (hb.mono B14.out.size))
  have z15 : w14.heap.size ≤ w15.heap.size := hb.size
  have CB15 := kide (CB14.out.later hb)
  have S15 := kide (S14.out.later hb)
  have XB15 := kide (XB14.out.later hb)
  have HH15 := kide (HH14.out.later hb)
  obtain ⟨a15, c15, rfl, hh15⟩ := o15.hold (by rw [HNY.out]; exact hny2)
  rw [HNY.out] at hh15 ⊢
  have H15 := kide hh15
  clear o15 hh15
  clear hb B14 CB14 S14 XB14 HH14 RC14
  go_wp2_with fail
  refine Calls.mono (eqBoolS_hold _ _ c15 c4 ny _ _ _ _ Y w15 H15.out S15.out) ?_
  rintro e w16 ⟨rfl, hb⟩
  have B16 := kide (B15.out.trans (hb.mono B15.out.size))
  have z16 : w15.heap.size ≤ w16.heap.size := hb.size
  have CB16 := kide (CB15.out.later hb)
  have XB16 := kide (XB15.out.later hb)
  have HH16 := kide (HH15.out.later hb)
  clear hb B15 CB15 XB15 HH15 H15 S15
  go_wp2_with fail
  refine Calls.mono (HVV.out w16 HH16.out) ?_
  rintro e wq ⟨rfl, hwq⟩
  obtain rfl := hwq.symm
  clear hwq
  go_wp2_with fail
  go_ret
  exact ⟨rfl, B16.out⟩

theorem law_no_FnExactSettle (S : Int) (b : Option Addr) (n c : Nat) (most : Int) (w : World) (Z : Int) (hZ : Z < 0)
    (HSZ : Hid (∀ u, Below w.heap.size w u → Calls Tryd.prog 7 #[.agg #[.int .i64 S, .slice b n c], .int .i64 1048576] u fun e w' => e = .returned (.int .i64 Z) ∧ Below u.heap.size u w')) :
    Calls Tryd.prog 4 #[.agg #[.int .i64 S, .slice b n c], .int .i64 most] w fun e w' => e = .returned (.bool true) ∧ Below w.heap.size w w' := by
  have s0 := St.start w (.cells #[.int .i64 S, .slice b n c] 24)
  go_enter Tryd.func4, Tryd.ntmps4
  go_wp2_with fail
  refine Calls.mono (HSZ.out _ s0.below) ?_
  rintro e w1 ⟨rfl, hb1⟩
  have s1 := s0.next hb1
  go_wp2_with fail
  go_ret
  exact ⟨rfl, s1.below⟩

theorem walk_FnExactSettle (S : Int) (b : Option Addr) (n c : Nat) (hS : in64 S) (hn : n ≤ 9223372036854775807) (most : Int) (hmo9 : (Lit.int .i64 most).wf = true) (w : World) (hT : TabAt 0 Lib.deBruijn64tab w)
    (hy : n ≤ 1048576 → ∃ hs : List Ih, hs.length = n ∧ RdIh w b hs ∧ ∀ h ∈ hs, NumsOf w h) :
    Calls Tryd.prog 4 #[.agg #[.int .i64 S, .slice b n c], .int .i64 most] w fun e w' => e = .returned (.bool true) ∧ Below w.heap.size w w' := by
  have h0 : 0 < w.heap.size := block_lt_of_cell (hT 0 (by decide))
  have hmo : in64 most := bounds_i64 hmo9
  obtain ⟨Z, HSZ, -, hneg | ⟨hpos, xs, hxl, hr⟩⟩ := size_cnf S b n c w hn hy
  · exact law_no_FnExactSettle S b n c most w Z hneg HSZ
  · exact law_yes_FnExactSettle S hS b n c most hmo xs w hT h0 hr hxl Z hpos HSZ

end Go.Proofs.YtmfamdonbgmjbaaDoor
