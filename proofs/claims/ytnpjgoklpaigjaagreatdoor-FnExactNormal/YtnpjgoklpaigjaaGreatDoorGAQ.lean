/- Several texts in one. -/
import Derived.Test.YtnpjgoklpaigjaaGreatDoorGAB
import Derived.Test.YtnpjgoklpaigjaaGreatDoorGAP
import Derived.Test.YtnpjgoklpaigjaaGreatDoorGAG
import Derived.Test.YtnpjgoklpaigjaaGreatDoorGAH
import Derived.Handy
import Derived.Test.YtnpjgoklpaigjaaGreatDoorGAL
import Derived.Test.YtnpjgoklpaigjaaGreatDoorRXI
import Derived.Test.YtnpjgoklpaigjaaGreatDoorGAO
namespace Go.Proofs.YtnpjgoklpaigjaaGreatDoor
set_option linter.unusedVariables false
set_option linter.unusedSimpArgs false
open Go.RowKit Go.Shelf
theorem inTurn2 {L1 L2 : List Sc} {v1 v2 : Value} {w : World} {β : Nat} (h1 : Itr L1 w v1) (h2 : Itr L2 w v2) (hb : Bz w β #[v1, v2] 108) : Calls Tryz.prog 94 #[.slice (some ⟨β, 0, none⟩) 2 2] w (RetIt (L1 ++ L2) w) := by
 have h9 := inTurn_it (N := 2) (c := 2) (Ls := [L1, L2]) (vs := [v1, v2]) rfl (by omega) rfl hb.lt (fun i v hv => by
  match i, hv with
  | 0, hv => simp at hv; subst hv; exact hb.cell 0
  | 1, hv => simp at hv; subst hv; exact hb.cell 1
  | i + 2, hv => simp at hv) (fun i L v hL hv => by
  match i, hL, hv with
  | 0, hL, hv => simp at hL hv; subst hL hv; exact h1
  | 1, hL, hv => simp at hL hv; subst hL hv; exact h2
  | i + 2, hL, hv => simp at hv)
 simpa using h9
theorem inTurnR {L : List Sc} {v : Value} {w : World} {g A : Nat} (h : Itr L w v) (hA : 1 ≤ A) (hA2 : A ≤ 4096) (hc : ∀ i, i < A → w.cell? ⟨g, i, none⟩ = some v) : Calls Tryz.prog 94 #[.slice (some ⟨g, 0, none⟩) A A] w (RetIt (List.replicate A L).flatten w) :=
 inTurn_it (Ls := List.replicate A L) (vs := List.replicate A v) (by simp) (by omega) (by simp) (block_lt_of_cell (hc 0 (by omega))) (fun i u hu => by
  have hi := (List.getElem?_eq_some_iff.1 hu).1
  rw [List.length_replicate] at hi
  rw [List.getElem?_replicate, if_pos hi] at hu
  cases hu
  exact hc i hi) (fun i L' u hL hu => by
  rw [(List.mem_replicate.1 (List.mem_of_getElem? hL)).2, (List.mem_replicate.1 (List.mem_of_getElem? hu)).2]
  exact h)
theorem zero1_any (w : World) : Calls Tryz.prog 96 #[.int .i64 1] w fun e w' => ∃ g, e = .returned (.agg #[.int .i64 1, .slice (some ⟨g, 0, none⟩) 1 1]) ∧ Own w' g [0] ∧ Below w.heap.size w w' := by
 refine (zeroBits_any 1 w (by omega) (by omega)).mono ?_
 rintro e w' ⟨g, rfl, -, h1, h2⟩
 exact ⟨g, rfl, h1, h2⟩
theorem atz {w : World} {g : Nat} (h : Own w g [0]) : AtS w.heap.size w ⟨⟨-1, 0, 1, 1, [0]⟩, some ⟨g, 0, none⟩, 1⟩ :=
 ⟨⟨by simp, by simp, by simp, .inl ⟨rfl, rfl, rfl, (by decide : rightB 1 [0] = true)⟩⟩, by simp, h.rd (by simp) (by simp), fun e => (by cases e), fun q hq => by cases hq; exact h.lt⟩
set_option maxHeartbeats 4000000 in
set_option maxRecDepth 100000 in
theorem seg4 {da : Option Addr} {dc nd An Bn nw wc kb ko kc ab ao na ac fb fo fc xn Wd J : Nat} {vr  bw : Int} {wa : Option Addr} {F : List Sc} {xs : List Sg} {w : World} (HFM : Hid (Fm w (.slice (some ⟨fb, fo, none⟩) xn fc) F xs)) (HS : Hid (sumS F = (Wd : Int)))
  (HFW : Hid (∀ u, Below w.heap.size w u → Calls Tryz.prog 92 #[.slice (some ⟨fb, fo, none⟩) xn fc] u fun e w' => e = .returned (.int .i64 (Wd : Int)) ∧ Below u.heap.size u w'))
  (hfc : w.cell? ⟨ab, ao + J, none⟩ = some (.slice (some ⟨fb, fo, none⟩) xn fc)) (hkc : w.cell? ⟨kb, ko, none⟩ = some (.int .i64 (J : Int))) (qJ : (J : Int) < (na : Int)) (hK1 : 1 ≤ Wd) (hK2 : Wd ≤ 4096) (p1 : Bn ≤ An) (p3 : An < Wd) :
  Calls Tryz.prog 63 #[.slice da nd dc, .agg #[.int .i64 4, .int .i64 vr, .int .i64 (An : Int), .int .i64 (Bn : Int), .int .i64 bw, .slice wa nw wc, .slice (some ⟨kb, ko, none⟩) 1 kc], .slice (some ⟨ab, ao, none⟩) na ac] w (RetIt (betS Bn (An + 1) 0 F) w) := by
 have lab := block_lt_of_cell hfc
 have lkb := block_lt_of_cell hkc
 have qJ0 : (J : Int) ≥ 0 := by omega
 have q9 : IntKind.i64.wrap ((An : Int) + 1) = ((An + 1 : Nat) : Int) := by rw [IntKind.wrap_i64]; omega
 have BY : Hid (Below w.heap.size w (w.alloc (Obj.cells #[.int .i64 4, .int .i64 vr, .int .i64 (An : Int), .int .i64 (Bn : Int), .int .i64 bw, .slice wa nw wc, .slice (some ⟨kb, ko, none⟩) 1 kc] 67))) := blA _ _
 have XY : Hid (Bz (w.alloc (Obj.cells #[.int .i64 4, .int .i64 vr, .int .i64 (An : Int), .int .i64 (Bn : Int), .int .i64 bw, .slice wa nw wc, .slice (some ⟨kb, ko, none⟩) 1 kc] 67)) w.heap.size #[.int .i64 4, .int .i64 vr, .int .i64 (An : Int), .int .i64 (Bn : Int), .int .i64 bw, .slice wa nw wc, .slice (some ⟨kb, ko, none⟩) 1 kc] 67) := Bz.new w _ _
 go_enter Tryz.func63, Tryz.ntmps63
 go_wp2_with fail
 generalize w.alloc (Obj.cells #[.int .i64 4, .int .i64 vr, .int .i64 (An : Int), .int .i64 (Bn : Int), .int .i64 bw, .slice wa nw wc, .slice (some ⟨kb, ko, none⟩) 1 kc] 67) = Y at *
 refine Calls.mono (HFW.out Y BY.out) ?_
 rintro e wy ⟨rfl, hb2⟩
 have B2 := kide (BY.out.trans (hb2.mono BY.out.size))
 obtain ⟨b0, hb0⟩ : ∃ b0, w.heap.size = b0 := ⟨_, rfl⟩
 have HB0 := kide hb0
 rw [hb0] at XY
 simp only [hb0]
 have X2 := kide (XY.out.later hb2)
 have c0 := X2.out.cell 0
 have c2 := X2.out.cell 2
 have c3 := X2.out.cell 3
 simp at c0 c2 c3
 clear hb2 hb0 BY XY
 go_wp2_with fail
 refine Calls.mono (between_it (lo := Bn) (en := An + 1) (HFM.out.later B2.out) (by rw [HS.out]; omega) (by omega) (by omega)) ?_
 rintro e w4 ⟨v4, rfl, hi4, hb4⟩
 have I4 := kide hi4
 have B4 := kide (B2.out.trans (hb4.mono B2.out.size))
 clear hi4 hb4
 go_wp2_with fail
 exact bodyPost_ret (v := v4) (by simp [results, Tryz.results63, go_sem]) rfl ⟨v4, rfl, I4.out, B4.out⟩
set_option maxHeartbeats 4000000 in
set_option maxRecDepth 100000 in
theorem seg5 {da : Option Addr} {dc nd An  nw wc kb ko kc ab ao na ac fb fo fc xn Wd J : Nat} {vr Bb bw : Int} {wa : Option Addr} {F : List Sc} {xs : List Sg} {w : World} (HFM : Hid (Fm w (.slice (some ⟨fb, fo, none⟩) xn fc) F xs)) (HS : Hid (sumS F = (Wd : Int)))
  (HFW : Hid (∀ u, Below w.heap.size w u → Calls Tryz.prog 92 #[.slice (some ⟨fb, fo, none⟩) xn fc] u fun e w' => e = .returned (.int .i64 (Wd : Int)) ∧ Below u.heap.size u w'))
  (hfc : w.cell? ⟨ab, ao + J, none⟩ = some (.slice (some ⟨fb, fo, none⟩) xn fc)) (hkc : w.cell? ⟨kb, ko, none⟩ = some (.int .i64 (J : Int))) (qJ : (J : Int) < (na : Int)) (hK1 : 1 ≤ Wd) (hK2 : Wd ≤ 4096) (ha : An ≤ 4096) :
  Calls Tryz.prog 63 #[.slice da nd dc, .agg #[.int .i64 5, .int .i64 vr, .int .i64 (An : Int), .int .i64 Bb, .int .i64 bw, .slice wa nw wc, .slice (some ⟨kb, ko, none⟩) 1 kc], .slice (some ⟨ab, ao, none⟩) na ac] w (RetIt (F ++ List.replicate An ⟨-1, 0, 1, 1, [0]⟩) w) := by
 have lab := block_lt_of_cell hfc
 have lkb := block_lt_of_cell hkc
 have qJ0 : (J : Int) ≥ 0 := by omega
 have BY : Hid (Below w.heap.size w (w.alloc (Obj.cells #[.int .i64 5, .int .i64 vr, .int .i64 (An : Int), .int .i64 Bb, .int .i64 bw, .slice wa nw wc, .slice (some ⟨kb, ko, none⟩) 1 kc] 67))) := blA _ _
 have XY : Hid (Bz (w.alloc (Obj.cells #[.int .i64 5, .int .i64 vr, .int .i64 (An : Int), .int .i64 Bb, .int .i64 bw, .slice wa nw wc, .slice (some ⟨kb, ko, none⟩) 1 kc] 67)) w.heap.size #[.int .i64 5, .int .i64 vr, .int .i64 (An : Int), .int .i64 Bb, .int .i64 bw, .slice wa nw wc, .slice (some ⟨kb, ko, none⟩) 1 kc] 67) := Bz.new w _ _
 go_enter Tryz.func63, Tryz.ntmps63
 go_wp2_with fail
 generalize w.alloc (Obj.cells #[.int .i64 5, .int .i64 vr, .int .i64 (An : Int), .int .i64 Bb, .int .i64 bw, .slice wa nw wc, .slice (some ⟨kb, ko, none⟩) 1 kc] 67) = Y at *
 refine Calls.mono (HFW.out Y BY.out) ?_
 rintro e wy ⟨rfl, hb2⟩
 have B2 := kide (BY.out.trans (hb2.mono BY.out.size))
 obtain ⟨b0, hb0⟩ : ∃ b0, w.heap.size = b0 := ⟨_, rfl⟩
 have HB0 := kide hb0
 rw [hb0] at XY
 simp only [hb0]
 have X2 := kide (XY.out.later hb2)
 have c0 := X2.out.cell 0
 have c2 := X2.out.cell 2
 have c3 := X2.out.cell 3
 simp at c0 c2 c3
 clear hb2 hb0 BY XY
 go_wp2_with fail
 refine wp_region_x (SA := fun _ => False) (SB := fun uu => Below wy.heap.size wy uu) (k := 999) (by kernel_rfl) ?_
 have hu0 : Hid (Below wy.heap.size wy wy.drew) := (Below.refl _ _).drew
 generalize wy.drew = u0 at *
 try go_simp
 refine tkP (i := 0) (v := Value.slice (some ⟨fb, fo, none⟩) xn fc) rfl hu0.out ?_
 try go_simp
 refine tkP (i := 2) (v := Value.pointer (some ⟨b0, 2, none⟩)) rfl hu0.out ?_
 try go_simp
 refine tkS (i := 3) (v := Value.int .i64 (An : Int)) rfl hu0.out (fun uu hu => by have e0 := (kcell hu b0 2 X2.out.lt).trans c2; go_simp) ?_
 try go_simp
 refine rdX (rs := [1]) (AllX.cons rfl (fun K hK => ?_) AllX.nil)
 go_simp
 refine Calls.mono (values_it (HFM.out.later (B2.out.trans (hu0.out.mono B2.out.size)))) ?_
 rintro e u1 ⟨v1, rfl, hi1, hb1⟩
 have hu1 : Hid (Below wy.heap.size wy u1) := hu0.out.trans (hb1.mono hu0.out.size)
 obtain ⟨g1, lb1, rfl, -⟩ := id hi1.is
 have I1_1 : Hid (Itr (F) u1 (Value.func (Fn.func g1) #[] lb1)) := hi1
 clear hi1
 refine hK _ _ (Sx.behind (by kernel_rfl) hu1.out) ?_
 clear hK K hb1
 try go_simp
 refine rdX (rs := [4]) (AllX.cons rfl (fun K hK => ?_) AllX.nil)
 go_simp
 refine Calls.mono (zero1_any u1) ?_
 rintro e u2 ⟨gz, rfl, hoz, hbz⟩
 have hu2 : Hid (Below wy.heap.size wy u2) := hu1.out.trans (hbz.mono hu1.out.size)
 have I1_2 : Hid (Itr (F) u2 (Value.func (Fn.func g1) #[] lb1)) := I1_1.out.later hbz
 have OZ_2 : Hid (Own u2 gz [0]) := hoz
 clear hoz
 refine hK _ _ (Sx.behind (by kernel_rfl) hu2.out) ?_
 clear hK K hbz
 try go_simp
 refine rdX (rs := [5]) (AllX.cons rfl (fun K hK => ?_) AllX.nil)
 go_simp
 refine Calls.mono (constSeg_any _ _ _ _ u2) ?_
 rintro e u3 ⟨rfl, hbc⟩
 have hu3 : Hid (Below wy.heap.size wy u3) := hu2.out.trans (hbc.mono hu2.out.size)
 have I1_3 : Hid (Itr (F) u3 (Value.func (Fn.func g1) #[] lb1)) := I1_2.out.later hbc
 have OZ_3 : Hid (Own u3 gz [0]) := Own.later OZ_2.out hbc (Own.lt OZ_2.out)
 refine hK _ _ (Sx.behind (by kernel_rfl) hu3.out) ?_
 clear hK K hbc
 try go_simp
 refine rdX (rs := [6]) (AllX.cons rfl (fun K hK => ?_) AllX.nil)
 go_simp
 refine Calls.mono (again_it (m := An) (x := ⟨⟨-1, 0, 1, 1, [0]⟩, some ⟨gz, 0, none⟩, 1⟩) (by omega) (atz OZ_3.out)) ?_
 rintro e u4 ⟨v2, rfl, hi2, hb2⟩
 have hu4 : Hid (Below wy.heap.size wy u4) := hu3.out.trans (hb2.mono hu3.out.size)
 have I1_4 : Hid (Itr (F) u4 (Value.func (Fn.func g1) #[] lb1)) := I1_3.out.later hb2
 have OZ_4 : Hid (Own u4 gz [0]) := Own.later OZ_3.out hb2 (Own.lt OZ_3.out)
 obtain ⟨g2, lb2, rfl, -⟩ := id hi2.is
 have I2_4 : Hid (Itr (List.replicate An ⟨-1, 0, 1, 1, [0]⟩) u4 (Value.func (Fn.func g2) #[] lb2)) := hi2
 clear hi2
 refine hK _ _ (Sx.behind (by kernel_rfl) hu4.out) ?_
 clear hK K hb2
 try go_simp
 refine rdX (rs := [7]) (AllX.cons rfl (fun K hK => ?_) AllX.nil)
 go_simp
 refine hK _ _ (Sx.behind (by kernel_rfl) (hu4.out.alloc hu4.out.size _)) ?_
 clear hK K
 have hu5 : Hid (Below wy.heap.size wy (u4.alloc (Obj.cells #[.func (Fn.func g1) #[] lb1, .func (Fn.func g2) #[] lb2] 108))) := hu4.out.alloc hu4.out.size _
 have bbb_5 : Hid (Bz (u4.alloc (Obj.cells #[.func (Fn.func g1) #[] lb1, .func (Fn.func g2) #[] lb2] 108)) u4.heap.size #[.func (Fn.func g1) #[] lb1, .func (Fn.func g2) #[] lb2] 108) := Bz.new _ _ _
 have w5 : Below u4.heap.size u4 (u4.alloc (Obj.cells #[.func (Fn.func g1) #[] lb1, .func (Fn.func g2) #[] lb2] 108)) := blA _ _
 have I1_5 : Hid (Itr (F) (u4.alloc (Obj.cells #[.func (Fn.func g1) #[] lb1, .func (Fn.func g2) #[] lb2] 108)) (Value.func (Fn.func g1) #[] lb1)) := I1_4.out.later w5
 have OZ_5 : Hid (Own (u4.alloc (Obj.cells #[.func (Fn.func g1) #[] lb1, .func (Fn.func g2) #[] lb2] 108)) gz [0]) := Own.later OZ_4.out w5 (Own.lt OZ_4.out)
 have I2_5 : Hid (Itr (List.replicate An ⟨-1, 0, 1, 1, [0]⟩) (u4.alloc (Obj.cells #[.func (Fn.func g1) #[] lb1, .func (Fn.func g2) #[] lb2] 108)) (Value.func (Fn.func g2) #[] lb2)) := I2_4.out.later w5
 have lbb : wy.heap.size ≤ u4.heap.size := hu4.out.size
 clear w5
 generalize hqbb : u4.heap.size = bb at *
 generalize u4.alloc (Obj.cells #[.func (Fn.func g1) #[] lb1, .func (Fn.func g2) #[] lb2] 108) = u5 at *
 clear hqbb
 try go_simp
 refine rdX (rs := [8]) (AllX.cons rfl (fun K hK => ?_) AllX.nil)
 go_simp
 refine Calls.mono (inTurn2 I1_5.out I2_5.out bbb_5.out) ?_
 rintro e u6 ⟨v4, rfl, hi4, hb4⟩
 have hu6 : Hid (Below wy.heap.size wy u6) := hu5.out.trans (hb4.mono hu5.out.size)
 have bbb_6 : Hid (Bz u6 bb #[.func (Fn.func g1) #[] lb1, .func (Fn.func g2) #[] lb2] 108) := Bz.later bbb_5.out hb4
 have I1_6 : Hid (Itr (F) u6 (Value.func (Fn.func g1) #[] lb1)) := I1_5.out.later hb4
 have OZ_6 : Hid (Own u6 gz [0]) := Own.later OZ_5.out hb4 (Own.lt OZ_5.out)
 have I2_6 : Hid (Itr (List.replicate An ⟨-1, 0, 1, 1, [0]⟩) u6 (Value.func (Fn.func g2) #[] lb2)) := I2_5.out.later hb4
 obtain ⟨g4, lb4, rfl, -⟩ := id hi4.is
 have I4_6 := kide hi4
 clear hi4
 refine hK _ _ (Sx.behind (by kernel_rfl) hu6.out) ?_
 clear hK K hb4
 try go_simp
 refine tkP (i := 9) (v := Value.func (Fn.func g4) #[] lb4) rfl hu6.out ?_
 try go_simp
 refine wpAnyX_done (by kernel_rfl) ?_ _
 have B4 := kide (B2.out.trans (hu6.out.mono B2.out.size))
 go_wp2_with fail
 exact bodyPost_ret (v := Value.func (Fn.func g4) #[] lb4) (by simp [results, Tryz.results63, go_sem]) rfl ⟨_, rfl, I4_6.out, B4.out⟩
set_option maxHeartbeats 4000000 in
set_option maxRecDepth 100000 in
theorem seg6 {da : Option Addr} {dc nd An  nw wc kb ko kc ab ao na ac fb fo fc xn Wd J : Nat} {vr Bb bw : Int} {wa : Option Addr} {F : List Sc} {xs : List Sg} {w : World} (HFM : Hid (Fm w (.slice (some ⟨fb, fo, none⟩) xn fc) F xs)) (HS : Hid (sumS F = (Wd : Int)))
  (HFW : Hid (∀ u, Below w.heap.size w u → Calls Tryz.prog 92 #[.slice (some ⟨fb, fo, none⟩) xn fc] u fun e w' => e = .returned (.int .i64 (Wd : Int)) ∧ Below u.heap.size u w'))
  (hfc : w.cell? ⟨ab, ao + J, none⟩ = some (.slice (some ⟨fb, fo, none⟩) xn fc)) (hkc : w.cell? ⟨kb, ko, none⟩ = some (.int .i64 (J : Int))) (qJ : (J : Int) < (na : Int)) (hK1 : 1 ≤ Wd) (hK2 : Wd ≤ 4096) (ha : An ≤ 4096) :
  Calls Tryz.prog 63 #[.slice da nd dc, .agg #[.int .i64 6, .int .i64 vr, .int .i64 (An : Int), .int .i64 Bb, .int .i64 bw, .slice wa nw wc, .slice (some ⟨kb, ko, none⟩) 1 kc], .slice (some ⟨ab, ao, none⟩) na ac] w (RetIt (F ++ List.replicate An (cutS (lastS F) ((lastS F).wd.toNat - 1) 1)) w) := by
 have lab := block_lt_of_cell hfc
 have lkb := block_lt_of_cell hkc
 have qJ0 : (J : Int) ≥ 0 := by omega
 have BY : Hid (Below w.heap.size w (w.alloc (Obj.cells #[.int .i64 6, .int .i64 vr, .int .i64 (An : Int), .int .i64 Bb, .int .i64 bw, .slice wa nw wc, .slice (some ⟨kb, ko, none⟩) 1 kc] 67))) := blA _ _
 have XY : Hid (Bz (w.alloc (Obj.cells #[.int .i64 6, .int .i64 vr, .int .i64 (An : Int), .int .i64 Bb, .int .i64 bw, .slice wa nw wc, .slice (some ⟨kb, ko, none⟩) 1 kc] 67)) w.heap.size #[.int .i64 6, .int .i64 vr, .int .i64 (An : Int), .int .i64 Bb, .int .i64 bw, .slice wa nw wc, .slice (some ⟨kb, ko, none⟩) 1 kc] 67) := Bz.new w _ _
 go_enter Tryz.func63, Tryz.ntmps63
 go_wp2_with fail
 generalize w.alloc (Obj.cells #[.int .i64 6, .int .i64 vr, .int .i64 (An : Int), .int .i64 Bb, .int .i64 bw, .slice wa nw wc, .slice (some ⟨kb, ko, none⟩) 1 kc] 67) = Y at *
 refine Calls.mono (HFW.out Y BY.out) ?_
 rintro e wy ⟨rfl, hb2⟩
 have B2 := kide (BY.out.trans (hb2.mono BY.out.size))
 obtain ⟨b0, hb0⟩ : ∃ b0, w.heap.size = b0 := ⟨_, rfl⟩
 have HB0 := kide hb0
 rw [hb0] at XY
 simp only [hb0]
 have X2 := kide (XY.out.later hb2)
 have c0 := X2.out.cell 0
 have c2 := X2.out.cell 2
 have c3 := X2.out.cell 3
 simp at c0 c2 c3
 clear hb2 hb0 BY XY
 go_wp2_with fail
 refine wp_region_x (SA := fun _ => False) (SB := fun uu => Below wy.heap.size wy uu) (k := 999) (by kernel_rfl) ?_
 have hu0 : Hid (Below wy.heap.size wy wy.drew) := (Below.refl _ _).drew
 generalize wy.drew = u0 at *
 try go_simp
 refine tkP (i := 0) (v := Value.slice (some ⟨fb, fo, none⟩) xn fc) rfl hu0.out ?_
 try go_simp
 refine tkP (i := 2) (v := Value.pointer (some ⟨b0, 2, none⟩)) rfl hu0.out ?_
 try go_simp
 refine tkS (i := 3) (v := Value.int .i64 (An : Int)) rfl hu0.out (fun uu hu => by have e0 := (kcell hu b0 2 X2.out.lt).trans c2; go_simp) ?_
 try go_simp
 refine tkP (i := 4) (v := Value.slice (some ⟨fb, fo, none⟩) xn fc) rfl hu0.out ?_
 try go_simp
 refine rdX (rs := [1]) (AllX.cons rfl (fun K hK => ?_) AllX.nil)
 go_simp
 refine Calls.mono (values_it (HFM.out.later (B2.out.trans (hu0.out.mono B2.out.size)))) ?_
 rintro e u1 ⟨v1, rfl, hi1, hb1⟩
 have hu1 : Hid (Below wy.heap.size wy u1) := hu0.out.trans (hb1.mono hu0.out.size)
 obtain ⟨g1, lb1, rfl, -⟩ := id hi1.is
 have I1_1 : Hid (Itr (F) u1 (Value.func (Fn.func g1) #[] lb1)) := hi1
 clear hi1
 refine hK _ _ (Sx.behind (by kernel_rfl) hu1.out) ?_
 clear hK K hb1
 try go_simp
 refine rdX (rs := [5]) (AllX.cons rfl (fun K hK => ?_) AllX.nil)
 go_simp
 refine Calls.mono (highest_any (HFM.out.later (B2.out.trans (hu1.out.mono B2.out.size)))) ?_
 rintro e u2 ⟨y, rfl, hyc, hya, -, hbh⟩
 have hu2 : Hid (Below wy.heap.size wy u2) := hu1.out.trans (hbh.mono hu1.out.size)
 have I1_2 : Hid (Itr (F) u2 (Value.func (Fn.func g1) #[] lb1)) := I1_1.out.later hbh
 have YC := kide hyc
 have AY_2 : Hid (AtS u2.heap.size u2 y) := hya
 clear hyc hya
 refine hK _ _ (Sx.behind (by kernel_rfl) hu2.out) ?_
 clear hK K hbh
 try go_simp
 refine rdX (rs := [6]) (AllX.cons rfl (fun K hK => ?_) AllX.nil)
 go_simp
 refine Calls.mono (again_it (m := An) (x := y) (by omega) AY_2.out) ?_
 rintro e u3 ⟨v2, rfl, hi2, hb2⟩
 have hu3 : Hid (Below wy.heap.size wy u3) := hu2.out.trans (hb2.mono hu2.out.size)
 have I1_3 : Hid (Itr (F) u3 (Value.func (Fn.func g1) #[] lb1)) := I1_2.out.later hb2
 have AY_3 : Hid (AtS u3.heap.size u3 y) := AtS.later AY_2.out hb2 (Below.size hb2)
 obtain ⟨g2, lb2, rfl, -⟩ := id hi2.is
 have I2_3 : Hid (Itr (List.replicate An y.ct) u3 (Value.func (Fn.func g2) #[] lb2)) := hi2
 clear hi2
 refine hK _ _ (Sx.behind (by kernel_rfl) hu3.out) ?_
 clear hK K hb2
 try go_simp
 refine rdX (rs := [7]) (AllX.cons rfl (fun K hK => ?_) AllX.nil)
 go_simp
 refine hK _ _ (Sx.behind (by kernel_rfl) (hu3.out.alloc hu3.out.size _)) ?_
 clear hK K
 have hu4 : Hid (Below wy.heap.size wy (u3.alloc (Obj.cells #[.func (Fn.func g1) #[] lb1, .func (Fn.func g2) #[] lb2] 108))) := hu3.out.alloc hu3.out.size _
 have bbb_4 : Hid (Bz (u3.alloc (Obj.cells #[.func (Fn.func g1) #[] lb1, .func (Fn.func g2) #[] lb2] 108)) u3.heap.size #[.func (Fn.func g1) #[] lb1, .func (Fn.func g2) #[] lb2] 108) := Bz.new _ _ _
 have w4 : Below u3.heap.size u3 (u3.alloc (Obj.cells #[.func (Fn.func g1) #[] lb1, .func (Fn.func g2) #[] lb2] 108)) := blA _ _
 have I1_4 : Hid (Itr (F) (u3.alloc (Obj.cells #[.func (Fn.func g1) #[] lb1, .func (Fn.func g2) #[] lb2] 108)) (Value.func (Fn.func g1) #[] lb1)) := I1_3.out.later w4
 have AY_4 : Hid (AtS (u3.alloc (Obj.cells #[.func (Fn.func g1) #[] lb1, .func (Fn.func g2) #[] lb2] 108)).heap.size (u3.alloc (Obj.cells #[.func (Fn.func g1) #[] lb1, .func (Fn.func g2) #[] lb2] 108)) y) := AtS.later AY_3.out w4 (Below.size w4)
 have I2_4 : Hid (Itr (List.replicate An y.ct) (u3.alloc (Obj.cells #[.func (Fn.func g1) #[] lb1, .func (Fn.func g2) #[] lb2] 108)) (Value.func (Fn.func g2) #[] lb2)) := I2_3.out.later w4
 have lbb : wy.heap.size ≤ u3.heap.size := hu3.out.size
 clear w4
 generalize hqbb : u3.heap.size = bb at *
 generalize u3.alloc (Obj.cells #[.func (Fn.func g1) #[] lb1, .func (Fn.func g2) #[] lb2] 108) = u4 at *
 clear hqbb
 try go_simp
 refine rdX (rs := [8]) (AllX.cons rfl (fun K hK => ?_) AllX.nil)
 go_simp
 refine Calls.mono (inTurn2 I1_4.out I2_4.out bbb_4.out) ?_
 rintro e u5 ⟨v4, rfl, hi4, hb4⟩
 have hu5 : Hid (Below wy.heap.size wy u5) := hu4.out.trans (hb4.mono hu4.out.size)
 have bbb_5 : Hid (Bz u5 bb #[.func (Fn.func g1) #[] lb1, .func (Fn.func g2) #[] lb2] 108) := Bz.later bbb_4.out hb4
 have I1_5 : Hid (Itr (F) u5 (Value.func (Fn.func g1) #[] lb1)) := I1_4.out.later hb4
 have AY_5 : Hid (AtS u5.heap.size u5 y) := AtS.later AY_4.out hb4 (Below.size hb4)
 have I2_5 : Hid (Itr (List.replicate An y.ct) u5 (Value.func (Fn.func g2) #[] lb2)) := I2_4.out.later hb4
 obtain ⟨g4, lb4, rfl, -⟩ := id hi4.is
 have I4_5 := kide hi4
 clear hi4
 refine hK _ _ (Sx.behind (by kernel_rfl) hu5.out) ?_
 clear hK K hb4
 try go_simp
 refine tkP (i := 9) (v := Value.func (Fn.func g4) #[] lb4) rfl hu5.out ?_
 try go_simp
 refine wpAnyX_done (by kernel_rfl) ?_ _
 have B4 := kide (B2.out.trans (hu5.out.mono B2.out.size))
 go_wp2_with fail
 exact bodyPost_ret (v := Value.func (Fn.func g4) #[] lb4) (by simp [results, Tryz.results63, go_sem]) rfl ⟨_, rfl, (by rw [← YC.out]; exact I4_5.out), B4.out⟩
set_option maxHeartbeats 4000000 in
set_option maxRecDepth 100000 in
theorem seg7 {da : Option Addr} {dc nd An  nw wc kb ko kc ab ao na ac fb fo fc xn Wd J : Nat} {vr Bb bw : Int} {wa : Option Addr} {F : List Sc} {xs : List Sg} {w : World} (HFM : Hid (Fm w (.slice (some ⟨fb, fo, none⟩) xn fc) F xs)) (HS : Hid (sumS F = (Wd : Int)))
  (HFW : Hid (∀ u, Below w.heap.size w u → Calls Tryz.prog 92 #[.slice (some ⟨fb, fo, none⟩) xn fc] u fun e w' => e = .returned (.int .i64 (Wd : Int)) ∧ Below u.heap.size u w'))
  (hfc : w.cell? ⟨ab, ao + J, none⟩ = some (.slice (some ⟨fb, fo, none⟩) xn fc)) (hkc : w.cell? ⟨kb, ko, none⟩ = some (.int .i64 (J : Int))) (qJ : (J : Int) < (na : Int)) (hK1 : 1 ≤ Wd) (hK2 : Wd ≤ 4096) (ha : An ≤ 4096) :
  Calls Tryz.prog 63 #[.slice da nd dc, .agg #[.int .i64 7, .int .i64 vr, .int .i64 (An : Int), .int .i64 Bb, .int .i64 bw, .slice wa nw wc, .slice (some ⟨kb, ko, none⟩) 1 kc], .slice (some ⟨ab, ao, none⟩) na ac] w (RetIt (betS (Wd - An % Wd) Wd 0 F ++ betS 0 (Wd - An % Wd) 0 F) w) := by
 have lab := block_lt_of_cell hfc
 have lkb := block_lt_of_cell hkc
 have qJ0 : (J : Int) ≥ 0 := by omega
 obtain ⟨md, hmdE⟩ : ∃ md, An % Wd = md := ⟨_, rfl⟩
 have hmd := Nat.mod_lt An (show 0 < Wd by omega)
 have q8 : (An : Int) % (Wd : Int) = ((An % Wd : Nat) : Int) := by omega
 rw [hmdE] at q8 hmd ⊢
 clear hmdE
 have BY : Hid (Below w.heap.size w (w.alloc (Obj.cells #[.int .i64 7, .int .i64 vr, .int .i64 (An : Int), .int .i64 Bb, .int .i64 bw, .slice wa nw wc, .slice (some ⟨kb, ko, none⟩) 1 kc] 67))) := blA _ _
 have XY : Hid (Bz (w.alloc (Obj.cells #[.int .i64 7, .int .i64 vr, .int .i64 (An : Int), .int .i64 Bb, .int .i64 bw, .slice wa nw wc, .slice (some ⟨kb, ko, none⟩) 1 kc] 67)) w.heap.size #[.int .i64 7, .int .i64 vr, .int .i64 (An : Int), .int .i64 Bb, .int .i64 bw, .slice wa nw wc, .slice (some ⟨kb, ko, none⟩) 1 kc] 67) := Bz.new w _ _
 go_enter Tryz.func63, Tryz.ntmps63
 go_wp2_with fail
 generalize w.alloc (Obj.cells #[.int .i64 7, .int .i64 vr, .int .i64 (An : Int), .int .i64 Bb, .int .i64 bw, .slice wa nw wc, .slice (some ⟨kb, ko, none⟩) 1 kc] 67) = Y at *
 refine Calls.mono (HFW.out Y BY.out) ?_
 rintro e wy ⟨rfl, hb2⟩
 have B2 := kide (BY.out.trans (hb2.mono BY.out.size))
 obtain ⟨b0, hb0⟩ : ∃ b0, w.heap.size = b0 := ⟨_, rfl⟩
 have HB0 := kide hb0
 rw [hb0] at XY
 simp only [hb0]
 have X2 := kide (XY.out.later hb2)
 have c0 := X2.out.cell 0
 have c2 := X2.out.cell 2
 have c3 := X2.out.cell 3
 simp at c0 c2 c3
 clear hb2 hb0 BY XY
 go_wp2_with fail
 refine Calls.mono (turned_it (k := md) (HFM.out.later B2.out) HS.out hK2 (by omega)) ?_
 rintro e w4 ⟨v4, rfl, hi4, hb4⟩
 have I4 := kide hi4
 have B4 := kide (B2.out.trans (hb4.mono B2.out.size))
 clear hi4 hb4
 go_wp2_with fail
 exact bodyPost_ret (v := v4) (by simp [results, Tryz.results63, go_sem]) rfl ⟨v4, rfl, I4.out, B4.out⟩
set_option maxHeartbeats 4000000 in
set_option maxRecDepth 100000 in
theorem seg8 {da : Option Addr} {dc nd An  nw wc kb ko kc ab ao na ac fb fo fc xn Wd J : Nat} {vr Bb bw : Int} {wa : Option Addr} {F : List Sc} {xs : List Sg} {w : World} (HFM : Hid (Fm w (.slice (some ⟨fb, fo, none⟩) xn fc) F xs)) (HS : Hid (sumS F = (Wd : Int)))
  (HFW : Hid (∀ u, Below w.heap.size w u → Calls Tryz.prog 92 #[.slice (some ⟨fb, fo, none⟩) xn fc] u fun e w' => e = .returned (.int .i64 (Wd : Int)) ∧ Below u.heap.size u w'))
  (hfc : w.cell? ⟨ab, ao + J, none⟩ = some (.slice (some ⟨fb, fo, none⟩) xn fc)) (hkc : w.cell? ⟨kb, ko, none⟩ = some (.int .i64 (J : Int))) (qJ : (J : Int) < (na : Int)) (hK1 : 1 ≤ Wd) (hK2 : Wd ≤ 4096) (ha : An ≤ 4096) :
  Calls Tryz.prog 63 #[.slice da nd dc, .agg #[.int .i64 8, .int .i64 vr, .int .i64 (An : Int), .int .i64 Bb, .int .i64 bw, .slice wa nw wc, .slice (some ⟨kb, ko, none⟩) 1 kc], .slice (some ⟨ab, ao, none⟩) na ac] w (RetIt (betS (An % Wd) Wd 0 F ++ betS 0 (An % Wd) 0 F) w) := by
 have lab := block_lt_of_cell hfc
 have lkb := block_lt_of_cell hkc
 have qJ0 : (J : Int) ≥ 0 := by omega
 obtain ⟨md, hmdE⟩ : ∃ md, An % Wd = md := ⟨_, rfl⟩
 have hmd := Nat.mod_lt An (show 0 < Wd by omega)
 have q8 : (An : Int) % (Wd : Int) = ((An % Wd : Nat) : Int) := by omega
 rw [hmdE] at q8 hmd ⊢
 have q9 : IntKind.i64.wrap ((Wd : Int) - (md : Int)) = ((Wd - md : Nat) : Int) := by rw [IntKind.wrap_i64]; omega
 clear hmdE
 have BY : Hid (Below w.heap.size w (w.alloc (Obj.cells #[.int .i64 8, .int .i64 vr, .int .i64 (An : Int), .int .i64 Bb, .int .i64 bw, .slice wa nw wc, .slice (some ⟨kb, ko, none⟩) 1 kc] 67))) := blA _ _
 have XY : Hid (Bz (w.alloc (Obj.cells #[.int .i64 8, .int .i64 vr, .int .i64 (An : Int), .int .i64 Bb, .int .i64 bw, .slice wa nw wc, .slice (some ⟨kb, ko, none⟩) 1 kc] 67)) w.heap.size #[.int .i64 8, .int .i64 vr, .int .i64 (An : Int), .int .i64 Bb, .int .i64 bw, .slice wa nw wc, .slice (some ⟨kb, ko, none⟩) 1 kc] 67) := Bz.new w _ _
 go_enter Tryz.func63, Tryz.ntmps63
 go_wp2_with fail
 generalize w.alloc (Obj.cells #[.int .i64 8, .int .i64 vr, .int .i64 (An : Int), .int .i64 Bb, .int .i64 bw, .slice wa nw wc, .slice (some ⟨kb, ko, none⟩) 1 kc] 67) = Y at *
 refine Calls.mono (HFW.out Y BY.out) ?_
 rintro e wy ⟨rfl, hb2⟩
 have B2 := kide (BY.out.trans (hb2.mono BY.out.size))
 obtain ⟨b0, hb0⟩ : ∃ b0, w.heap.size = b0 := ⟨_, rfl⟩
 have HB0 := kide hb0
 rw [hb0] at XY
 simp only [hb0]
 have X2 := kide (XY.out.later hb2)
 have c0 := X2.out.cell 0
 have c2 := X2.out.cell 2
 have c3 := X2.out.cell 3
 simp at c0 c2 c3
 clear hb2 hb0 BY XY
 go_wp2_with fail
 refine Calls.mono (turned_it (k := Wd - md) (HFM.out.later B2.out) HS.out hK2 (by omega)) ?_
 rintro e w4 ⟨v4, rfl, hi4, hb4⟩
 have I4 := kide hi4
 have B4 := kide (B2.out.trans (hb4.mono B2.out.size))
 clear hi4 hb4
 go_wp2_with fail
 exact bodyPost_ret (v := v4) (by simp [results, Tryz.results63, go_sem]) rfl ⟨v4, rfl, by have h9 := I4.out; rw [show Wd - (Wd - md) = md by omega] at h9; exact h9, B4.out⟩
set_option maxHeartbeats 4000000 in
set_option maxRecDepth 100000 in
theorem seg9 {da : Option Addr} {dc nd An  nw wc kb ko kc ab ao na ac fb fo fc xn Wd J : Nat} {vr Bb bw : Int} {wa : Option Addr} {F : List Sc} {xs : List Sg} {w : World} (HFM : Hid (Fm w (.slice (some ⟨fb, fo, none⟩) xn fc) F xs)) (HS : Hid (sumS F = (Wd : Int)))
  (HFW : Hid (∀ u, Below w.heap.size w u → Calls Tryz.prog 92 #[.slice (some ⟨fb, fo, none⟩) xn fc] u fun e w' => e = .returned (.int .i64 (Wd : Int)) ∧ Below u.heap.size u w'))
  (hfc : w.cell? ⟨ab, ao + J, none⟩ = some (.slice (some ⟨fb, fo, none⟩) xn fc)) (hkc : w.cell? ⟨kb, ko, none⟩ = some (.int .i64 (J : Int))) (qJ : (J : Int) < (na : Int)) (hK1 : 1 ≤ Wd) (hK2 : Wd ≤ 4096) (hA1 : 1 ≤ An) (hA4 : An ≤ 4096) :
  Calls Tryz.prog 63 #[.slice da nd dc, .agg #[.int .i64 9, .int .i64 vr, .int .i64 (An : Int), .int .i64 Bb, .int .i64 bw, .slice wa nw wc, .slice (some ⟨kb, ko, none⟩) 1 kc], .slice (some ⟨ab, ao, none⟩) na ac] w (RetIt ((List.replicate An F).flatten) w) := by
 have lab := block_lt_of_cell hfc
 have lkb := block_lt_of_cell hkc
 have qJ0 : (J : Int) ≥ 0 := by omega
 have BY : Hid (Below w.heap.size w (w.alloc (Obj.cells #[.int .i64 9, .int .i64 vr, .int .i64 (An : Int), .int .i64 Bb, .int .i64 bw, .slice wa nw wc, .slice (some ⟨kb, ko, none⟩) 1 kc] 67))) := blA _ _
 have XY : Hid (Bz (w.alloc (Obj.cells #[.int .i64 9, .int .i64 vr, .int .i64 (An : Int), .int .i64 Bb, .int .i64 bw, .slice wa nw wc, .slice (some ⟨kb, ko, none⟩) 1 kc] 67)) w.heap.size #[.int .i64 9, .int .i64 vr, .int .i64 (An : Int), .int .i64 Bb, .int .i64 bw, .slice wa nw wc, .slice (some ⟨kb, ko, none⟩) 1 kc] 67) := Bz.new w _ _
 go_enter Tryz.func63, Tryz.ntmps63
 go_wp2_with fail
 generalize w.alloc (Obj.cells #[.int .i64 9, .int .i64 vr, .int .i64 (An : Int), .int .i64 Bb, .int .i64 bw, .slice wa nw wc, .slice (some ⟨kb, ko, none⟩) 1 kc] 67) = Y at *
 refine Calls.mono (HFW.out Y BY.out) ?_
 rintro e wy ⟨rfl, hb2⟩
 have B2 := kide (BY.out.trans (hb2.mono BY.out.size))
 obtain ⟨b0, hb0⟩ : ∃ b0, w.heap.size = b0 := ⟨_, rfl⟩
 have HB0 := kide hb0
 rw [hb0] at XY
 simp only [hb0]
 have X2 := kide (XY.out.later hb2)
 have c0 := X2.out.cell 0
 have c2 := X2.out.cell 2
 have c3 := X2.out.cell 3
 simp at c0 c2 c3
 clear hb2 hb0 BY XY
 go_wp2_with fail
 refine wp_region_x (SA := fun _ => False) (SB := fun uu => Below wy.heap.size wy uu) (k := 999) (by kernel_rfl) ?_
 have hu0 : Hid (Below wy.heap.size wy wy.drew) := (Below.refl _ _).drew
 generalize wy.drew = u0 at *
 try go_simp
 refine tkP (i := 0) (v := Value.slice (some ⟨fb, fo, none⟩) xn fc) rfl hu0.out ?_
 try go_simp
 refine tkP (i := 3) (v := Value.pointer (some ⟨b0, 2, none⟩)) rfl hu0.out ?_
 try go_simp
 refine tkS (i := 4) (v := Value.int .i64 (An : Int)) rfl hu0.out (fun uu hu => by have e0 := (kcell hu b0 2 X2.out.lt).trans c2; go_simp) ?_
 try go_simp
 refine rdX (rs := [1]) (AllX.cons rfl (fun K hK => ?_) AllX.nil)
 go_simp
 refine Calls.mono (values_it (HFM.out.later (B2.out.trans (hu0.out.mono B2.out.size)))) ?_
 rintro e u1 ⟨v1, rfl, hi1, hb1⟩
 have hu1 : Hid (Below wy.heap.size wy u1) := hu0.out.trans (hb1.mono hu0.out.size)
 obtain ⟨g1, lb1, rfl, -⟩ := id hi1.is
 have I1_1 : Hid (Itr (F) u1 (Value.func (Fn.func g1) #[] lb1)) := hi1
 clear hi1
 refine hK _ _ (Sx.behind (by kernel_rfl) hu1.out) ?_
 clear hK K hb1
 try go_simp
 refine rdX (rs := [2]) (AllX.cons rfl (fun K hK => ?_) AllX.nil)
 go_simp
 refine hK _ _ (Sx.behind (by kernel_rfl) (hu1.out.alloc hu1.out.size _)) ?_
 clear hK K
 have hu2 : Hid (Below wy.heap.size wy (u1.alloc (Obj.cells #[.func (Fn.func g1) #[] lb1] 108))) := hu1.out.alloc hu1.out.size _
 have bbb_2 : Hid (Bz (u1.alloc (Obj.cells #[.func (Fn.func g1) #[] lb1] 108)) u1.heap.size #[.func (Fn.func g1) #[] lb1] 108) := Bz.new _ _ _
 have w2 : Below u1.heap.size u1 (u1.alloc (Obj.cells #[.func (Fn.func g1) #[] lb1] 108)) := blA _ _
 have I1_2 : Hid (Itr (F) (u1.alloc (Obj.cells #[.func (Fn.func g1) #[] lb1] 108)) (Value.func (Fn.func g1) #[] lb1)) := I1_1.out.later w2
 have lbb : wy.heap.size ≤ u1.heap.size := hu1.out.size
 clear w2
 generalize hqbb : u1.heap.size = bb at *
 generalize u1.alloc (Obj.cells #[.func (Fn.func g1) #[] lb1] 108) = u2 at *
 clear hqbb
 try go_simp
 refine rdX (rs := [5]) (AllX.cons rfl (fun K hK => ?_) AllX.nil)
 go_simp
 refine Calls.mono (repeat_any bb 1 An (Value.func (Fn.func g1) #[] lb1) u2 hA1 hA4 rfl (bbb_2.out.cell 0)) ?_
 rintro e u3 ⟨gr, rfl, hrc, hb2⟩
 have hu3 : Hid (Below wy.heap.size wy u3) := hu2.out.trans (hb2.mono hu2.out.size)
 have bbb_3 : Hid (Bz u3 bb #[.func (Fn.func g1) #[] lb1] 108) := Bz.later bbb_2.out hb2
 have I1_3 : Hid (Itr (F) u3 (Value.func (Fn.func g1) #[] lb1)) := I1_2.out.later hb2
 have RC_3 : Hid (∀ i, i < An → u3.cell? ⟨gr, i, none⟩ = some (Value.func (Fn.func g1) #[] lb1)) := hrc
 clear hrc
 refine hK _ _ (Sx.behind (by kernel_rfl) hu3.out) ?_
 clear hK K hb2
 try go_simp
 refine rdX (rs := [6]) (AllX.cons rfl (fun K hK => ?_) AllX.nil)
 go_simp
 refine Calls.mono (inTurnR I1_3.out hA1 hA4 RC_3.out) ?_
 rintro e u4 ⟨v4, rfl, hi4, hb4⟩
 have hu4 : Hid (Below wy.heap.size wy u4) := hu3.out.trans (hb4.mono hu3.out.size)
 have bbb_4 : Hid (Bz u4 bb #[.func (Fn.func g1) #[] lb1] 108) := Bz.later bbb_3.out hb4
 have I1_4 : Hid (Itr (F) u4 (Value.func (Fn.func g1) #[] lb1)) := I1_3.out.later hb4
 have RC_4 : Hid (∀ i, i < An → u4.cell? ⟨gr, i, none⟩ = some (Value.func (Fn.func g1) #[] lb1)) := (fun i hi => (kcell hb4 gr i (block_lt_of_cell (RC_3.out i hi))).trans (RC_3.out i hi))
 obtain ⟨g4, lb4, rfl, -⟩ := id hi4.is
 have I4_4 := kide hi4
 clear hi4
 refine hK _ _ (Sx.behind (by kernel_rfl) hu4.out) ?_
 clear hK K hb4
 try go_simp
 refine tkP (i := 7) (v := Value.func (Fn.func g4) #[] lb4) rfl hu4.out ?_
 try go_simp
 refine wpAnyX_done (by kernel_rfl) ?_ _
 have B4 := kide (B2.out.trans (hu4.out.mono B2.out.size))
 go_wp2_with fail
 exact bodyPost_ret (v := Value.func (Fn.func g4) #[] lb4) (by simp [results, Tryz.results63, go_sem]) rfl ⟨_, rfl, I4_4.out, B4.out⟩

open Go.RowKit Go.Shelf

structure NdA (w : World) (x : Tg) : Prop where
 rd : Rd w x.wa x.ct.ws
 rk : RdI w x.ka x.ct.ks
 no : x.wa = none → x.wc = 0
 pw : ∀ q, x.wa = some q → q.block < w.heap.size
 pk : ∀ q, x.ka = some q → q.block < w.heap.size
 v64 : in64 x.ct.vr
set_option maxHeartbeats 4000000 in
set_option maxRecDepth 100000 in
theorem segsOf_it (da : Option Addr) (dc nd : Nat) (ds : List Dc) (x : Tg) (aa : Option Addr) (na ac : Nat) (all : List (List Ib)) (w : World) (hd : RdD w da ds) (hnd : ds.length = nd) (hx : NdA w x) (hA : Ah w aa (all.map formB)) (hna : all.length ≤ na) (hna2 : na ≤ 1048576) (hN : FNode ds all x.ct) :
  Calls Tryz.prog 63 #[.slice da nd dc, .agg #[.int .i64 x.ct.op, .int .i64 x.ct.vr, .int .i64 x.ct.a, .int .i64 x.ct.b, .int .i64 x.ct.bw, .slice x.wa x.ct.ws.length x.wc, .slice x.ka x.ct.ks.length x.kc], .slice aa na ac] w (RetIt (sgL ds all x.ct) w) := by
 obtain ⟨L, hL⟩ : ∃ L, sgL ds all x.ct = L := ⟨_, rfl⟩
 rw [hL]
 have HX := kide hx
 have HD := kide hd
 have HA := kide hA
 have HN := kide hN
 have HND := kide hnd
 have hop := hN.op
 clear hd hx hA hN
 obtain ⟨⟨op, vr, A, Bb, bw, ws, ks⟩, wa, wc, ka, kc⟩ := x
 simp only [] at hop hL ⊢
 obtain ⟨nw, hnw⟩ : ∃ n, ws.length = n := ⟨_, rfl⟩
 obtain ⟨nk, hnk⟩ : ∃ n, ks.length = n := ⟨_, rfl⟩
 rw [hnw, hnk]
 have HNW := kide hnw
 have HNK := kide hnk
 clear hnw hnk
 rcases (show op = 1 ∨ op = 2 ∨ op = 3 ∨ 4 ≤ op by omega) with e | e | e | e
 ·subst e
  obtain ⟨⟨v1, v2⟩, v3, v4⟩ := HN.out.var rfl
  simp only [] at v1 v2 v3 v4
  obtain ⟨V, rfl⟩ : ∃ V : Nat, vr = (V : Int) := ⟨vr.toNat, by omega⟩
  have hVn : V < nd := by rw [← HND.out]; omega
  rw [Int.toNat_natCast] at v3 v4
  have hLs : L = List.replicate 1 ⟨(V : Int), 0, (ds.getD V (.empty, 0)).2, 0, []⟩ := by rw [← hL]; unfold sgL; simp
  clear hL
  obtain ⟨db, dq, rfl, hdc⟩ : ∃ b o, da = some ⟨b, o, none⟩ ∧ DcAt w b (o + V * 2) (ds.getD V (.empty, 0)) := by
   rcases HD.out.2.2 with h9 | ⟨b, o, e, hc⟩
   ·have := HND.out; rw [h9] at this; simp at this; omega
   ·refine ⟨b, o, e, hc V _ ?_⟩
    have hl : V < ds.length := by rw [HND.out]; exact hVn
    simp [List.getD, hl]
  obtain ⟨d0, d1⟩ := hdc
  generalize (ds.getD V (.empty, 0)).2 = E at *
  have HAG := kide (fun u (hu : Below w.heap.size w u) => again_it (m := 1) (x := ⟨⟨(V : Int), 0, E, 0, []⟩, none, 0⟩) (w := u) (by omega) ⟨⟨v3, v4, by simp, .inr ⟨by simp only []; omega, rfl, rfl⟩⟩, by simp only []; omega, ⟨by simp, by simp, .inl rfl⟩, fun _ => rfl, fun q hq => by cases hq⟩)
  unfold sgV at HAG
  simp only [List.length_nil] at HAG
  rw [hLs]
  have q1 : (V : Int) < (nd : Int) := by omega
  have q2 : (V : Int) ≥ 0 := by omega
  clear hLs d0
  have BY : Hid (Below w.heap.size w (w.alloc (Obj.cells #[.int .i64 1, .int .i64 (V : Int), .int .i64 A, .int .i64 Bb, .int .i64 bw, .slice wa nw wc, .slice ka nk kc] 67))) := blA _ _
  have XY : Hid (Bz (w.alloc (Obj.cells #[.int .i64 1, .int .i64 (V : Int), .int .i64 A, .int .i64 Bb, .int .i64 bw, .slice wa nw wc, .slice ka nk kc] 67)) w.heap.size #[.int .i64 1, .int .i64 (V : Int), .int .i64 A, .int .i64 Bb, .int .i64 bw, .slice wa nw wc, .slice ka nk kc] 67) := Bz.new w _ _
  go_enter Tryz.func63, Tryz.ntmps63
  go_wp2_with fail
  generalize w.alloc (Obj.cells #[.int .i64 1, .int .i64 (V : Int), .int .i64 A, .int .i64 Bb, .int .i64 bw, .slice wa nw wc, .slice ka nk kc] 67) = Y at *
  obtain ⟨b0, hb0⟩ : ∃ b0, w.heap.size = b0 := ⟨_, rfl⟩
  have HB0 := kide hb0
  rw [hb0] at XY
  simp only [hb0]
  have lb0 := XY.out.lt
  have c1 := XY.out.cell 1
  simp at c1
  have ldb : db < Y.heap.size := Nat.lt_of_lt_of_le (block_lt_of_cell d1) BY.out.size
  have c9 := (BY.out.cell (p := ⟨db, dq + V * 2 + 1, none⟩) (block_lt_of_cell d1)).trans d1
  clear d1 hb0
  refine wp_region_x (SA := fun _ => False) (SB := fun uu => Below Y.heap.size Y uu) (k := 999) (by kernel_rfl) ?_
  have hu0 : Hid (Below Y.heap.size Y Y.drew) := (Below.refl _ _).drew
  generalize Y.drew = u0 at *
  try go_simp
  refine tkP (i := 0) (v := Value.pointer (some ⟨b0, 1, none⟩)) rfl hu0.out ?_
  try go_simp
  refine tkS (i := 1) (v := Value.int .i64 (V : Int)) rfl hu0.out (fun uu hu => by have e0 := (kcell hu b0 1 lb0).trans c1; go_simp) ?_
  try go_simp
  refine tkP (i := 2) (v := Value.slice (some ⟨db, dq, none⟩) nd dc) rfl hu0.out ?_
  try go_simp
  refine tkP (i := 3) (v := Value.pointer (some ⟨b0, 1, none⟩)) rfl hu0.out ?_
  try go_simp
  refine tkS (i := 4) (v := Value.int .i64 (V : Int)) rfl hu0.out (fun uu hu => by have e0 := (kcell hu b0 1 lb0).trans c1; go_simp) ?_
  try go_simp
  refine tkP (i := 5) (v := Value.pointer (some ⟨db, dq + V * 2, none⟩)) rfl hu0.out ?_
  try go_simp
  refine tkP (i := 6) (v := Value.pointer (some ⟨db, dq + V * 2 + 1, none⟩)) rfl hu0.out ?_
  try go_simp
  refine tkS (i := 7) (v := Value.int .i64 E) rfl hu0.out (fun uu hu => by have e0 := (kcell hu db (dq + V * 2 + 1) ldb).trans c9; go_simp) ?_
  try go_simp
  refine tkP (i := 8) (v := Value.agg #[.int .i64 (V : Int), .int .i64 0, .int .i64 E, .int .i64 0, .slice none 0 0]) rfl hu0.out ?_
  try go_simp
  refine rdX (rs := [9]) (cnB rfl (fun K hK => ?_) AllX.nil)
  go_simp
  refine Calls.mono (HAG.out u0 (BY.out.trans (hu0.out.mono BY.out.size))) ?_
  rintro e u1 ⟨v4, rfl, hi4, hb4⟩
  have hu1 : Hid (Below Y.heap.size Y u1) := hu0.out.trans (hb4.mono hu0.out.size)
  have I4 := kide hi4
  clear hi4
  refine hK _ _ hu1.out ?_
  clear hK K hb4
  try go_simp
  refine tkP (i := 10) (v := v4) rfl hu1.out ?_
  try go_simp
  refine wpAnyX_done (by kernel_rfl) ?_ _
  have B4 := kide (BY.out.trans (hu1.out.mono BY.out.size))
  go_wp2_with fail
  exact bodyPost_ret (v := v4) (by simp [results, Tryz.results63, go_sem]) rfl ⟨v4, rfl, I4.out, B4.out⟩
 ·subst e
  have hc := HN.out.cst rfl
  simp only [] at hc
  have hLs : L = List.replicate 1 ⟨-1, 0, bw, bw, ws⟩ := by rw [← hL]; unfold sgL; simp
  clear hL
  have hW := right_W hc
  have HAG := kide (fun u (hu : Below w.heap.size w u) => again_it (m := 1) (x := ⟨⟨-1, 0, bw, bw, ws⟩, wa, wc⟩) (w := u) (by omega) ⟨⟨by simp only []; omega, by simp only []; omega, HX.out.rd.2.1, .inl ⟨rfl, rfl, rfl, hc⟩⟩, by simp only []; omega, HX.out.rd.later hu, HX.out.no, fun q hq => Nat.lt_of_lt_of_le (HX.out.pw q hq) hu.size⟩)
  unfold sgV at HAG
  simp only [] at HAG
  rw [HNW.out] at HAG
  rw [hLs]
  clear hLs hc hW
  have BY : Hid (Below w.heap.size w (w.alloc (Obj.cells #[.int .i64 2, .int .i64 vr, .int .i64 A, .int .i64 Bb, .int .i64 bw, .slice wa nw wc, .slice ka nk kc] 67))) := blA _ _
  have XY : Hid (Bz (w.alloc (Obj.cells #[.int .i64 2, .int .i64 vr, .int .i64 A, .int .i64 Bb, .int .i64 bw, .slice wa nw wc, .slice ka nk kc] 67)) w.heap.size #[.int .i64 2, .int .i64 vr, .int .i64 A, .int .i64 Bb, .int .i64 bw, .slice wa nw wc, .slice ka nk kc] 67) := Bz.new w _ _
  go_enter Tryz.func63, Tryz.ntmps63
  go_wp2_with fail
  generalize w.alloc (Obj.cells #[.int .i64 2, .int .i64 vr, .int .i64 A, .int .i64 Bb, .int .i64 bw, .slice wa nw wc, .slice ka nk kc] 67) = Y at *
  refine Calls.mono (constSeg_any _ _ _ _ _) ?_
  rintro e w2 ⟨rfl, hb2⟩
  have B2 := kide (BY.out.trans (hb2.mono BY.out.size))
  clear hb2
  go_wp2_with fail
  refine Calls.mono (HAG.out _ B2.out) ?_
  rintro e w4 ⟨v4, rfl, hi4, hb4⟩
  have I4 := kide hi4
  have B4 := kide (B2.out.trans (hb4.mono B2.out.size))
  clear hi4 hb4
  go_wp2_with fail
  exact bodyPost_ret (v := v4) (by simp [results, Tryz.results63, go_sem]) rfl ⟨v4, rfl, I4.out, B4.out⟩
 ·subst e
  have hLs : L = (ks.reverse.map fun k => (all.map formB).getD k.toNat []).flatten := by
   rw [← hL]
   unfold sgL
   simp only []
   rw [if_neg (by omega), if_neg (by omega), if_pos trivial]
   unfold kidsB
   rw [← List.map_reverse, List.map_map]
   congr 1
   refine List.map_congr_left fun k hk => ?_
   simp only [Function.comp, List.getD, List.getElem?_map]
   cases all[k.toNat]? <;> simp [formB_nil]
  clear hL
  have HJD := kide (fun u (hu : Below w.heap.size w u) => joined_it ka nk kc aa na ac ks (all.map formB) u (HX.out.rk.later hu) (fun q hq => Nat.lt_of_lt_of_le (HX.out.pk q hq) hu.size) HNK.out (by have := HN.out.many rfl; simp only [] at this; rw [HNK.out] at this; omega) (HA.out.later hu) (by rw [List.length_map]; exact hna) hna2 (fun k hk => by rw [List.length_map]; exact (HN.out.kid k hk).1))
  rw [hLs]
  clear hLs
  have BY : Hid (Below w.heap.size w (w.alloc (Obj.cells #[.int .i64 3, .int .i64 vr, .int .i64 A, .int .i64 Bb, .int .i64 bw, .slice wa nw wc, .slice ka nk kc] 67))) := blA _ _
  have XY : Hid (Bz (w.alloc (Obj.cells #[.int .i64 3, .int .i64 vr, .int .i64 A, .int .i64 Bb, .int .i64 bw, .slice wa nw wc, .slice ka nk kc] 67)) w.heap.size #[.int .i64 3, .int .i64 vr, .int .i64 A, .int .i64 Bb, .int .i64 bw, .slice wa nw wc, .slice ka nk kc] 67) := Bz.new w _ _
  go_enter Tryz.func63, Tryz.ntmps63
  go_wp2_with fail
  generalize w.alloc (Obj.cells #[.int .i64 3, .int .i64 vr, .int .i64 A, .int .i64 Bb, .int .i64 bw, .slice wa nw wc, .slice ka nk kc] 67) = Y at *
  refine Calls.mono (HJD.out _ BY.out) ?_
  rintro e w4 ⟨v4, rfl, hi4, hb4⟩
  have I4 := kide hi4
  have B4 := kide (BY.out.trans (hb4.mono BY.out.size))
  clear hi4 hb4
  go_wp2_with fail
  exact bodyPost_ret (v := v4) (by simp [results, Tryz.results63, go_sem]) rfl ⟨v4, rfl, I4.out, B4.out⟩
 ·obtain ⟨j, hj⟩ := HN.out.one (by simp only []; omega)
  simp only [] at hj
  have hkid := HN.out.kid j (by simp only []; rw [hj]; simp)
  obtain ⟨J, rfl⟩ : ∃ J : Nat, j = (J : Int) := ⟨j.toNat, by omega⟩
  rw [Int.toNat_natCast] at hkid
  obtain ⟨⟨-, hJ⟩, hK1, hK2, hK3⟩ := hkid
  have hJ2 : J < all.length := by omega
  have hgK : (all.map formB)[J]? = some (formB (all.getD J [])) := by rw [List.getElem?_map]; simp [List.getD, hJ2]
  have eK : (kidsB all ks).getD 0 [] = all.getD J [] := by rw [hj]; simp [kidsB]
  obtain ⟨ab, ao, rfl, fv, xs, hfc, hFm⟩ : ∃ ab ao, aa = some ⟨ab, ao, none⟩ ∧ ∃ fv xs, w.cell? ⟨ab, ao + J, none⟩ = some fv ∧ Fm w fv (formB (all.getD J [])) xs := by
   rcases HA.out with h9 | ⟨ab, ao, e, h9⟩
   ·rw [h9] at hgK; simp at hgK
   ·obtain ⟨fv, xs, h8⟩ := h9 J _ hgK
    exact ⟨ab, ao, e, fv, xs, h8⟩
  obtain ⟨kb, ko, rfl, hkc⟩ : ∃ kb ko, ka = some ⟨kb, ko, none⟩ ∧ w.cell? ⟨kb, ko + 0, none⟩ = some (.int .i64 (J : Int)) := by
   rcases HX.out.rk.2.2 with h9 | ⟨b, o, e, hc⟩
   ·simp only [] at h9; rw [h9] at hj; cases hj
   ·have h8 := hc 0 (by simp only []; rw [hj]; simp)
    simp only [] at h8
    rw [hj] at h8
    exact ⟨b, o, e, h8⟩
  rw [Nat.add_zero] at hkc
  obtain rfl : nk = 1 := by rw [← HNK.out, hj]; rfl
  obtain ⟨fb, fo, fc, rfl, -, -⟩ := id hFm.pl
  obtain ⟨xn, hxn⟩ : ∃ n, xs.length = n := ⟨_, rfl⟩
  obtain ⟨hP, hO⟩ := formB_P _ (all.getD J []) (Nat.le_refl _) hK2 hK3
  have hsum : sumS (formB (all.getD J [])) = ((all.getD J []).length : Int) := by
   have h9 := formP_len (formB (all.getD J [])) (fun s hs => by have := (hO s hs).1.1; omega)
   rw [hP] at h9
   exact h9.symm
  unfold sgL at hL
  simp only [] at hL
  rw [if_neg (by omega), if_neg (by omega), if_neg (by omega), eK] at hL
  have hpart := HN.out.part
  have hamt := HN.out.amt
  have hrep := HN.out.rep
  simp only [] at hpart hamt hrep
  rw [eK] at hpart
  have HFM := kide hFm
  generalize all.getD J [] = K at *
  obtain ⟨Wd, hWd⟩ : ∃ n, K.length = n := ⟨_, rfl⟩
  rw [hWd] at hL hsum hK1 hK2 hpart
  have HFW := kide (fun u (hu : Below w.heap.size w u) => formWidth_any (some ⟨fb, fo, none⟩) fc xs.length xs u (hFm.rds.later hu) rfl hFm.n2 (fun x hx => by have h9 := (hFm.at' x hx).ok; exact ⟨h9.1, h9.2.1⟩))
  have ect := hFm.ct
  rw [ect, hsum, hxn] at HFW
  have HS := kide hsum
  rw [hxn] at hfc
  have lab := block_lt_of_cell hfc
  have lkb := block_lt_of_cell hkc
  have qJ : (J : Int) < (na : Int) := by omega
  have qJ0 : (J : Int) ≥ 0 := by omega
  clear hgK eK hP hO hK3 hj hWd hFm hsum ect
  obtain ⟨F, hF⟩ : ∃ F, formB K = F := ⟨_, rfl⟩
  rw [hF] at hL HFM HS
  rw [hxn] at HFM
  clear hF
  rcases (show op = 4 ∨ op = 5 ∨ op = 6 ∨ op = 7 ∨ op = 8 ∨ op = 9 by omega) with e | e | e | e | e | e
  ·subst e
   obtain ⟨p1, p2, p3⟩ := hpart rfl
   simp at hL
   obtain ⟨An, rfl⟩ : ∃ n : Nat, A = (n : Int) := ⟨A.toNat, by omega⟩
   obtain ⟨Bn, rfl⟩ : ∃ n : Nat, Bb = (n : Int) := ⟨Bb.toNat, by omega⟩
   simp only [Int.toNat_natCast] at hL
   subst hL
   exact seg4 HFM HS HFW hfc hkc qJ hK1 hK2 (by omega) (by omega)
  ·subst e
   have ha := hamt (by omega)
   skip
   simp at hL
   obtain ⟨An, rfl⟩ : ∃ n : Nat, A = (n : Int) := ⟨A.toNat, by omega⟩
   simp only [Int.toNat_natCast] at hL
   subst hL
   exact seg5 HFM HS HFW hfc hkc qJ hK1 hK2 (by omega)
  ·subst e
   have ha := hamt (by omega)
   skip
   simp at hL
   obtain ⟨An, rfl⟩ : ∃ n : Nat, A = (n : Int) := ⟨A.toNat, by omega⟩
   simp only [Int.toNat_natCast] at hL
   subst hL
   exact seg6 HFM HS HFW hfc hkc qJ hK1 hK2 (by omega)
  ·subst e
   have ha := hamt (by omega)
   skip
   simp at hL
   obtain ⟨An, rfl⟩ : ∃ n : Nat, A = (n : Int) := ⟨A.toNat, by omega⟩
   simp only [Int.toNat_natCast] at hL
   subst hL
   exact seg7 HFM HS HFW hfc hkc qJ hK1 hK2 (by omega)
  ·subst e
   have ha := hamt (by omega)
   skip
   simp at hL
   obtain ⟨An, rfl⟩ : ∃ n : Nat, A = (n : Int) := ⟨A.toNat, by omega⟩
   simp only [Int.toNat_natCast] at hL
   subst hL
   exact seg8 HFM HS HFW hfc hkc qJ hK1 hK2 (by omega)
  ·subst e
   have ha := hamt (by omega)
   have hr := hrep rfl
   simp at hL
   obtain ⟨An, rfl⟩ : ∃ n : Nat, A = (n : Int) := ⟨A.toNat, by omega⟩
   simp only [Int.toNat_natCast] at hL
   subst hL
   exact seg9 HFM HS HFW hfc hkc qJ hK1 hK2 (by omega) (by omega)
open Go.RowKit Go.Shelf
attribute [local go_sem] Oper.semAt_some
def RetGa (L : List Sc) (w : World) (e : Ending) (w' : World) : Prop := Below w.heap.size w w' ∧ ((∃ v l, e = .returned (.tuple #[v, .bool true]) ∧ l.map Sg.ct = formB (formP L) ∧ l.length ≤ 2000 ∧ OS5 w' w.heap.size v l ∧ (∀ x ∈ l, Rd w' x.a x.ct.ws) ∧ (∀ x ∈ l, x.a = none → x.c = 0) ∧ (∀ x ∈ l, ∀ p, x.a = some p → v.ownBlock ≠ some p.block) ∧ ∀ x ∈ l, ∀ p, x.a = some p → p.block < w'.heap.size) ∨
 (e = .returned (.tuple #[.slice none 0 0, .bool false]) ∧ 2000 < (formB (formP L)).length))
set_option maxHeartbeats 4000000 in
set_option maxRecDepth 100000 in
theorem gather_any (gf : Nat) (lb : Array Value) (L : List Sc) (w : World) (hent : ∀ (args : Array Value) (w : World), (callFunc gf args).run Tryz.prog w = .ok (.enter gf args) w) (hseq : ∀ n, SeqS n gf lb L w.heap.size w) (hok : ∀ s ∈ L, okS s ∧ 0 ≤ s.lo ∧ s.lo ≤ 4096) (hsum : sumS L ≤ 4096) :
  Calls Tryz.prog 62 #[.func (.func gf) #[] lb] w (RetGa L w) := by
 have HSQ := kide hseq
 have HOK := kide hok
 have HSM := kide hsum
 have HEN := kide hent
 obtain ⟨b, hb⟩ : ∃ b, w.heap.size = b := ⟨_, rfl⟩
 have HB := kide hb
 clear hseq hok hsum hent
 have A4 : Hid (Below w.heap.size w ((((w.alloc (Obj.cells #[.slice none 0 0] 45)).alloc (Obj.cells #[.bool false] 4)).alloc (Obj.cells #[.slice none 0 0] 45)).alloc (Obj.cells #[.bool false] 4))) := (((blA _ _).alloc (by simp) _).alloc (by simp; omega) _).alloc (by simp; omega) _
 refine (callsIn_wide (n := 5)).1 ?_
 refine callsIn_of_wp_marks Tryz.func62 rfl trivial ?_ rfl
 simp only [Tryz.ntmps62, List.size_toArray, List.length_cons, List.length_nil, Nat.reduceAdd, Nat.reduceSub, Array.replicate_succ, Array.replicate_zero, List.push_toArray, List.append_toArray, List.nil_append, List.cons_append]
 have G4 : Hid (Gi w b L [] false (.slice none 0 0) [] ((((w.alloc (Obj.cells #[.slice none 0 0] 45)).alloc (Obj.cells #[.bool false] 4)).alloc (Obj.cells #[.slice none 0 0] 45)).alloc (Obj.cells #[.bool false] 4))) := by
  have q0 := Bz.new w #[.slice none 0 0] 45
  have q1 := Bz.new (w.alloc (Obj.cells #[.slice none 0 0] 45)) #[.bool false] 4
  have q2 := Bz.new ((w.alloc (Obj.cells #[.slice none 0 0] 45)).alloc (Obj.cells #[.bool false] 4)) #[.slice none 0 0] 45
  have q3 := Bz.new (((w.alloc (Obj.cells #[.slice none 0 0] 45)).alloc (Obj.cells #[.bool false] 4)).alloc (Obj.cells #[.slice none 0 0] 45)) #[.bool false] 4
  simp only [World.size_alloc, hb] at q0 q1 q2 q3
  refine ⟨((q0.later (blA _ _)).later (blA _ _)).later (blA _ _), (q1.later (blA _ _)).later (blA _ _), q2.later (blA _ _), q3, OS5.nil _ _, ⟨by simp, by simp⟩, rfl, by simp, by simp, by simp, by simp, by simp, fun e => by (cases e), by simp, ⟨L, rfl⟩, by rw [← hb]; exact A4.out⟩
 have hz4 : ((((w.alloc (Obj.cells #[.slice none 0 0] 45)).alloc (Obj.cells #[.bool false] 4)).alloc (Obj.cells #[.slice none 0 0] 45)).alloc (Obj.cells #[.bool false] 4)).heap.size = b + 4 := by simp [hb]
 have HZ4 := kide hz4
 clear hz4
 rw [hb] at HSQ A4
 have HSQ5 := kide (HSQ.out (5 - 1))
 gi_wp2
 generalize ((((w.alloc (Obj.cells #[.slice none 0 0] 45)).alloc (Obj.cells #[.bool false] 4)).alloc (Obj.cells #[.slice none 0 0] 45)).alloc (Obj.cells #[.bool false] 4)) = w4 at *
 have hz4 := HZ4.out
 refine wpIn_rangeW (F := Fence.wide) rfl (fun _ => by omega) (gf := gf) (lb := lb) rfl trivial HEN.out HSQ5.out ?kr (fun h k => h.trans k) ?kb ?rp A4.out (fun _ => rfl)
  (fun s W => ∃ ow v l, Gi w b L s.1 ow v l W ∧ s.2 = OG b ow v l) (fun pre W => Below b w W ∧ 2000 < (formB (formP (pre.map Sg.ct))).length ∧ Bz W b #[.slice none 0 0] 45 ∧ Bz W (b + 1) #[.bool false] 4) (OG b false (.slice none 0 0) []) ?hi ?hix ?ho ⟨_, _, _, G4.out, rfl⟩
  (fun T x a' W => ∃ Bx, b + 4 ≤ Bx ∧ T ≤ Bx ∧ Bz W Bx #[.int .i64 x.ct.v, .int .i64 x.ct.lo, .int .i64 x.ct.wd, .int .i64 x.ct.bw, .slice x.a x.ct.ws.length x.c] 73 ∧ a' = { tmps := #[.func (Fn.func gf) #[] lb, undef, .pointer (some ⟨b, 0, none⟩), .pointer (some ⟨b + 1, 0, none⟩), .pointer (some ⟨b + 1 + 1, 0, none⟩), .pointer (some ⟨b + 1 + 1 + 1, 0, none⟩), .pointer (some ⟨Bx, 0, none⟩), undef, .func (Fn.func gf) #[] lb, sgV x, undef, undef, undef, undef, undef, undef, undef, undef, undef, undef, undef, undef, undef, undef, undef, undef, undef, undef, undef, undef, undef, undef, undef, undef, undef, undef, undef, undef, undef, undef, undef, undef, undef, undef, undef, undef, undef, undef, undef, undef, undef, undef, undef, undef], defers := [] }) ?hax ?assign ?body ?done ?stop
 case kr =>
  intro o o'
  exact ((Below.refl b w4).alloc (by omega) _).alloc (by simp; omega) _
 case kb =>
  intro W l o o' hl _ _
  exact ⟨rfl, rfl, rfl, by simp, fun k hk => World.putObj_heap_other (fun e => by omega)⟩
 case rp =>
  rintro T pre x W l o o' hl hc ⟨h1, h2, h3, h4⟩
  exact ⟨h1, cz_rd h2 (Cz.put o' hl hc), h3, fun p hp => ⟨(h4 p hp).1, by have := (h4 p hp).2; simpa using this⟩⟩
 case hi =>
  rintro s A B row ⟨ow, v, l, h, hO9⟩ hg hr
  refine ⟨ow, v, l, h.cz (cz_grown hg (fun r e => (hr r e).2)) (h.bel.trans ⟨hg.os, hg.tape, hg.output, hg.size, fun k hk => hg.block k ?_ ?_⟩), hO9⟩
  ·have := h.r0.lt; omega
  ·intro e; have := (hr k e.symm).1; omega
 case hix =>
  rintro s A B row ⟨h1, h2, h3, h4⟩ hg hr
  have hc := cz_grown hg (fun r e => (hr r e).2)
  refine ⟨h1.trans ⟨hg.os, hg.tape, hg.output, hg.size, fun k hk => hg.block k ?_ ?_⟩, h2, cz_bz h3 hc, cz_bz h4 hc⟩
  ·have := h3.lt; omega
  ·intro e; have := (hr k e.symm).1; omega
 case ho =>
  rintro s W ⟨ow, v, l, h, hO9⟩ k hk
  rw [hO9] at hk
  exact h.lt k hk
 case hax =>
  rintro T x a' _ A B row ⟨Bx, h1, h4, h2, h3⟩ hg hr
  exact ⟨Bx, h1, h4, cz_bz h2 (cz_grown hg (fun r e => (hr r e).2)), h3⟩
 case assign =>
  rintro l T pre O x W K hTW ⟨ow, v, l0, h, hO9⟩ ⟨r1, r2, r3, r4⟩ hK
  have hlt := h.ox.lt
  have hba : Below W.heap.size W (W.alloc (Obj.cells #[.int .i64 x.ct.v, .int .i64 x.ct.lo, .int .i64 x.ct.wd, .int .i64 x.ct.bw, .slice x.a x.ct.ws.length x.c] 73)) := blA _ _
  unfold sgV
  gi_wp2
  exact hK _ _ ((KeepsOthers.alloc _ _).from _) (hba.mono (by omega)) (Cz.below hba) ⟨ow, v, l0, h.later hba (by omega), hO9⟩ ⟨r1, r2.later hba, r3, fun p hp => ⟨(r4 p hp).1, Nat.lt_of_lt_of_le (r4 p hp).2 hba.size⟩⟩ ⟨W.heap.size, by omega, hTW, Bz.new W _ _, rfl⟩
 case body =>
  rintro lq pre O x a' W0 W hlq ⟨ow, v, k, hi0, hO9⟩ hcz ⟨_, _, _, hi1, -⟩ ⟨q1, q2, q3, q4⟩ ⟨Bx, hBx, hBT, hX, rfl⟩
  simp only [] at hi0 hi1 hO9
  subst hO9
  have hg := hi0.cz hcz hi1.bel
  have PL0 := kide hi0.pl
  have hW0 : W0.heap.size ≤ W.heap.size := hcz.1
  have HBX := kide hBT
  clear hBT
  have HRW0 : Hid (∀ g, v.ownBlock = some g → g < W0.heap.size) := fun g hg9 => (hi0.row.lt hg9).2
  have hmem : x.ct ∈ L := by
   obtain ⟨r, hr⟩ := q1
   rw [← hr]
   simp
  obtain ⟨hxo, hxl⟩ := HOK.out x.ct hmem
  have HXO := kide hxo
  have HQ1 := kide q1
  have HQ2 := kide q2
  have HQ3 := kide q3
  have HQ4 := kide q4
  have HX := kide hX
  have HG := kide hg
  have hfx := hg.fx.cell 0
  have hlt := hg.ox.lt
  have hmx : Tryz.prog.follows .mixedOrders = true := by kernel_rfl
  obtain ⟨va, vc, rfl⟩ := hg.row.form
  obtain ⟨N, hN⟩ : ∃ N, k.length = N := ⟨_, rfl⟩
  rw [hN] at hfx HG HRW0
  have HN := kide hN
  have hN2 : N ≤ 2000 := by have := hg.len; omega
  simp at hfx
  clear hi0 hi1 hcz q1 q2 q3 q4 hX hg hmem hxo
  unfold sgV
  rcases List.eq_nil_or_concat k with hk | ⟨k', y, hk⟩
  ·subst hk
   obtain rfl : N = 0 := by have := HN.out; simpa using this.symm
   gi_wp2
   refine wpIn_region_x (SA := fun _ => False) (SB := fun uu => Below W.heap.size W uu) (k := 999) hmx (by kernel_rfl) ?_
   have hm0 : Hid (Below W.heap.size W W.drew) := (Below.refl _ _).drew
   generalize W.drew = m0 at *
   try go_simp
   refine tkP (i := 0) (v := Value.int .i64 (-1)) rfl hm0.out ?_
   try go_simp
   refine tkP (i := 1) (v := Value.bool false) rfl hm0.out ?_
   try go_simp
   refine tkP (i := 2) (v := Value.bool false) rfl hm0.out ?_
   try go_simp
   refine tkO (i := 3) rfl hm0.out ?_
   try go_simp
   refine tkO (i := 4) rfl hm0.out ?_
   try go_simp
   refine tkO (i := 5) rfl hm0.out ?_
   try go_simp
   refine tkO (i := 6) rfl hm0.out ?_
   try go_simp
   refine tkO (i := 7) rfl hm0.out ?_
   try go_simp
   refine tkO (i := 8) rfl hm0.out ?_
   try go_simp
   refine tkP (i := 9) (v := Value.bool false) rfl hm0.out ?_
   try go_simp
   refine tkP (i := 10) (v := Value.bool false) rfl hm0.out ?_
   try go_simp
   refine wpAnyX_done (by kernel_rfl) ?_ _
   refine onlyN_in ?_
   have GM : Hid (Gi w b L pre ow (.slice va 0 vc) [] m0) := HG.out.later hm0.out (by omega)
   have XM := kide (HX.out.later hm0.out)
   have RM := kide (HQ2.out.later hm0.out)
   have NZ0 := kide (Nz.below hm0.out)
   have BW0 : Hid (Below b W m0) := hm0.out.mono (by omega)
   have f0 := GM.out.fx.cell 0
   have o0 := GM.out.ox.cell 0
   have f1 := GM.out.fx.froz 0
   have o1 := GM.out.ox.froz 0
   have x0 := XM.out.cell 0
   have x1 := XM.out.cell 1
   have x2 := XM.out.cell 2
   have x3 := XM.out.cell 3
   have x4 := XM.out.cell 4
   simp at f0 o0 x0 x1 x2 x3 x4
   have BA : Hid (Below m0.heap.size m0 (m0.alloc (Obj.cells #[.int .i64 x.ct.v, .int .i64 x.ct.lo, .int .i64 x.ct.wd, .int .i64 x.ct.bw, .slice x.a x.ct.ws.length x.c] 73))) := blA _ _
   have hzm : W.heap.size ≤ m0.heap.size := hm0.out.size
   have GA := kide (GM.out.later BA.out (by omega))
   have RA := kide (RM.out.later BA.out)
   have XA := kide (Bz.new m0 #[.int .i64 x.ct.v, .int .i64 x.ct.lo, .int .i64 x.ct.wd, .int .i64 x.ct.bw, .slice x.a x.ct.ws.length x.c] 73)
   have hsz : b ≤ (m0.alloc (Obj.cells #[.int .i64 x.ct.v, .int .i64 x.ct.lo, .int .i64 x.ct.wd, .int .i64 x.ct.bw, .slice x.a x.ct.ws.length x.c] 73)).heap.size := by simp; omega
   have hll : ([] : List Sg).length ≤ 1048576 := by simp
   have HQA : Hid (∀ p, x.a = some p → (Value.slice va 0 vc).ownBlock ≠ some p.block ∧ p.block < (m0.alloc (Obj.cells #[.int .i64 x.ct.v, .int .i64 x.ct.lo, .int .i64 x.ct.wd, .int .i64 x.ct.bw, .slice x.a x.ct.ws.length x.c] 73)).heap.size) := fun p hp => by
    have h9 := HQ4.out p hp
    refine ⟨fun e => ?_, by simp; omega⟩
    have h8 := HRW0.out _ e
    have h7 := (HG.out.row.lt e).1
    omega
   skip
   gi_wp2_with (gi_at_builtin; refine wpListIn_appS5 rfl _ _ rfl b _ [] x rfl GA.out.row _ _ rfl XA.out hll hsz ?_)
   intro g6 c6 w6 ho6 hg6 hl6
   have hgA := GA.out.app (k := []) (x := x) (N := 0) ho6 hg6 (by first | exact hl6 | simpa using hl6) HQ1.out RA.out HQ3.out HQA.out hxl (Nf.one HXO.out) (by first | (simp; done) | (rw [HN.out]; omega))
   have HGA := kide hgA
   have u0 := (bz_os5 GA.out.fx GA.out.row (by decide) hg6).cell 0
   have u1 := (bz_os5 GA.out.fx GA.out.row (by decide) hg6).froz 0
   have t0 := (bz_os5 GA.out.ox GA.out.row (by decide) hg6).cell 0
   have t1 := (bz_os5 GA.out.ox GA.out.row (by decide) hg6).froz 0
   simp at u0 t0
   have KA := kide (app_ko (x := x) (c6 := c6) (k := []) (ow := ow) (((Ko.refl (OG b ow (.slice va 0 vc) []) W).below hm0.out).below BA.out) hg6 (by first | exact hl6 | simpa using hl6))
   clear ho6 hg6 hl6 hgA
   gi_wp2
   obtain ⟨G9, N9, B9⟩ := HGA.out
   exact ⟨((NZ0.out.trans (Nz.below BA.out)).trans N9).keeps _, (BW0.out.trans (BA.out.mono (by omega))).trans B9, KA.out.1, _, ⟨false, _, _, G9, rfl⟩, KA.out.2⟩
  ·rw [List.concat_eq_append] at hk
   subst hk
   obtain ⟨M, hM⟩ : ∃ M, k'.length = M := ⟨_, rfl⟩
   have hNM : N = M + 1 := by have := HN.out; simp at this; omega
   have hNi : (N : Int) - 1 = (M : Int) := by omega
   have hMw : IntKind.i64.wrap (M : Int) = (M : Int) := by rw [IntKind.wrap_i64]; first | omega | (unfold wrap64; omega)
   have hMn : (M : Int) < (N : Int) := by omega
   have hM0 : (M : Int) ≥ 0 := by omega
   obtain ⟨g, rfl⟩ : ∃ g, va = some ⟨g, 0, none⟩ := by
    rcases HG.out.row.2 with ⟨e, h9⟩ | ⟨g, cap, cur, e, -⟩
    ·simp at h9
    ·cases e; exact ⟨g, rfl⟩
   obtain ⟨c0, c1, c2, c3, c4⟩ := os5_last HG.out.row hM
   have lg := (HG.out.row.lt (b := g) rfl).2
   have lf := HG.out.fx.lt
   have lx := HX.out.lt
   have d0 := HX.out.cell 0
   have d1 := HX.out.cell 1
   have d2 := HX.out.cell 2
   have d3 := HX.out.cell 3
   have d4 := HX.out.cell 4
   simp at d0 d1 d2 d3 d4
   have hyl := HG.out.lo y (by simp)
   have hyo : okS y.ct := HG.out.nf.ok y.ct (by simp)
   have HYO := kide hyo
   have HCO := kide (fun u => couldBeOne_any y.ct x.ct y.a x.a y.c x.c u hyl ⟨by have := hyo.1; omega, hyo.2.1⟩)
   have HMM := kide hM
   clear hM hyo hNM
   cases hone : oneB y.ct x.ct with
   | false =>
    rw [hone] at HCO
    have HNF : Hid (Nf ((k' ++ [y]).map Sg.ct ++ [x.ct])) := by
     show Nf _
     rw [List.map_append]
     exact Nf.snoc (by have := HG.out.nf; rw [List.map_append] at this; exact this) HXO.out hone
    clear hone
    gi_wp2
    refine wpIn_region_x (SA := fun _ => False) (SB := fun uu => Below W.heap.size W uu) (k := 999) hmx (by kernel_rfl) ?_
    have hm0 : Hid (Below W.heap.size W W.drew) := (Below.refl _ _).drew
    generalize W.drew = m0 at *
    try go_simp
    refine tkP (i := 0) (v := Value.int .i64 (M : Int)) rfl hm0.out ?_
    try go_simp
    refine tkP (i := 1) (v := Value.bool true) rfl hm0.out ?_
    try go_simp
    refine tkP (i := 2) (v := Value.bool true) rfl hm0.out ?_
    try go_simp
    refine tkS (i := 3) (v := Value.slice (some ⟨g, 0, none⟩) N vc) rfl hm0.out (fun uu hu => by have e0 := (kcell hu (b + 1 + 1) 0 lf).trans hfx; go_simp) ?_
    try go_simp
    refine tkP (i := 4) (v := Value.int .i64 (M : Int)) rfl hm0.out ?_
    try go_simp
    refine tkP (i := 5) (v := Value.pointer (some ⟨g, M * 5, none⟩)) rfl hm0.out ?_
    try go_simp
    refine tkS (i := 6) (v := Value.agg #[.int .i64 y.ct.v, .int .i64 y.ct.lo, .int .i64 y.ct.wd, .int .i64 y.ct.bw, .slice y.a y.ct.ws.length y.c]) rfl hm0.out (fun uu hu => by have e0 := (kcell hu g (M * 5) lg).trans c0; have e1 := (kcell hu g (M * 5 + 1) lg).trans c1; have e2 := (kcell hu g (M * 5 + 2) lg).trans c2; have e3 := (kcell hu g (M * 5 + 3) lg).trans c3; have e4 := (kcell hu g (M * 5 + 4) lg).trans c4; go_simp) ?_
    try go_simp
    refine tkS (i := 7) (v := Value.agg #[.int .i64 x.ct.v, .int .i64 x.ct.lo, .int .i64 x.ct.wd, .int .i64 x.ct.bw, .slice x.a x.ct.ws.length x.c]) rfl hm0.out (fun uu hu => by have e0 := (kcell hu Bx 0 lx).trans d0; have e1 := (kcell hu Bx 1 lx).trans d1; have e2 := (kcell hu Bx 2 lx).trans d2; have e3 := (kcell hu Bx 3 lx).trans d3; have e4 := (kcell hu Bx 4 lx).trans d4; go_simp) ?_
    try go_simp
    refine rdX (rs := [8]) (AllX.cons rfl (fun K hK => ?_) AllX.nil)
    go_simp
    refine Calls.mono (HCO.out m0) ?_
    rintro e m1 ⟨rfl, hbq⟩
    have hm1 : Hid (Below W.heap.size W m1) := hm0.out.trans (hbq.mono hm0.out.size)
    refine hK _ _ (Sx.behind (by kernel_rfl) hm1.out) ?_
    clear hK K hbq
    try go_simp
    refine tkP (i := 9) (v := Value.bool false) rfl hm1.out ?_
    try go_simp
    refine tkP (i := 10) (v := Value.bool false) rfl hm1.out ?_
    try go_simp
    refine wpAnyX_done (by kernel_rfl) ?_ _
    refine onlyN_in ?_
    by_cases h20 : N = 2000
    ·subst h20
     have GM : Hid (Gi w b L pre ow (.slice (some ⟨g, 0, none⟩) 2000 vc) (k' ++ [y]) m1) := HG.out.later hm1.out (by omega)
     have f0 := GM.out.fx.cell 0
     have r0 := GM.out.r0.cell 0
     have r1 := GM.out.r1.cell 0
     have r2 := GM.out.r0.froz 0
     have r3 := GM.out.r1.froz 0
     simp at f0 r0 r1
     have Y0 : Hid (Bz (m1.setCell ⟨b, 0, none⟩ (Value.slice none 0 0)) b #[.slice none 0 0] 45) := GM.out.r0.set 0 _
     have Y1 : Hid (Bz ((m1.setCell ⟨b, 0, none⟩ (Value.slice none 0 0)).setCell ⟨b + 1, 0, none⟩ (Value.bool false)) b #[.slice none 0 0] 45) := Y0.out.other (by omega) 0 _
     have Y3 : Hid (Bz (m1.setCell ⟨b, 0, none⟩ (Value.slice none 0 0)) (b + 1) #[.bool false] 4) := GM.out.r1.other (by omega) 0 _
     have Y2 : Hid (Bz ((m1.setCell ⟨b, 0, none⟩ (Value.slice none 0 0)).setCell ⟨b + 1, 0, none⟩ (Value.bool false)) (b + 1) #[.bool false] 4) := Y3.out.set 0 _
     have NZ : Hid (Nz W ((m1.setCell ⟨b, 0, none⟩ (Value.slice none 0 0)).setCell ⟨b + 1, 0, none⟩ (Value.bool false))) := ((Nz.below hm1.out).trans (Nz.set GM.out.r0 _)).trans (Nz.set Y3.out _)
     have BB : Hid (Below b w ((m1.setCell ⟨b, 0, none⟩ (Value.slice none 0 0)).setCell ⟨b + 1, 0, none⟩ (Value.bool false))) := (GM.out.bel.setCell (p := ⟨b, 0, none⟩) (Nat.le_refl _) _).setCell (p := ⟨b + 1, 0, none⟩) (Nat.le_succ _) _
     have LL : Hid (2000 < (formB (formP ((pre ++ [x]).map Sg.ct))).length) := by
      show _ < _
      have h9 := HG.out.bits
      rw [List.map_append, formP_app, ← h9, ← formP_app, show [x].map Sg.ct = [x.ct] from rfl, formB_nf HNF.out, List.length_append, List.length_map, HN.out]
      simp
     gi_wp2
     exact ⟨NZ.out.keeps _, BB.out, LL.out, Y1.out, Y2.out⟩
    ·have h21 : ((N : Int) == 2000) = false := by simp; omega
     have h22 : ¬ ((N : Int) = 2000) := by omega
     have GM : Hid (Gi w b L pre ow (.slice (some ⟨g, 0, none⟩) N vc) (k' ++ [y]) m1) := HG.out.later hm1.out (by omega)
     have XM := kide (HX.out.later hm1.out)
     have RM := kide (HQ2.out.later hm1.out)
     have NZ0 := kide (Nz.below hm1.out)
     have BW0 : Hid (Below b W m1) := hm1.out.mono (by omega)
     have f0 := GM.out.fx.cell 0
     have o0 := GM.out.ox.cell 0
     have f1 := GM.out.fx.froz 0
     have o1 := GM.out.ox.froz 0
     have x0 := XM.out.cell 0
     have x1 := XM.out.cell 1
     have x2 := XM.out.cell 2
     have x3 := XM.out.cell 3
     have x4 := XM.out.cell 4
     simp at f0 o0 x0 x1 x2 x3 x4
     have BA : Hid (Below m1.heap.size m1 (m1.alloc (Obj.cells #[.int .i64 x.ct.v, .int .i64 x.ct.lo, .int .i64 x.ct.wd, .int .i64 x.ct.bw, .slice x.a x.ct.ws.length x.c] 73))) := blA _ _
     have hzm : W.heap.size ≤ m1.heap.size := hm1.out.size
     have GA := kide (GM.out.later BA.out (by omega))
     have RA := kide (RM.out.later BA.out)
     have XA := kide (Bz.new m1 #[.int .i64 x.ct.v, .int .i64 x.ct.lo, .int .i64 x.ct.wd, .int .i64 x.ct.bw, .slice x.a x.ct.ws.length x.c] 73)
     have hsz : b ≤ (m1.alloc (Obj.cells #[.int .i64 x.ct.v, .int .i64 x.ct.lo, .int .i64 x.ct.wd, .int .i64 x.ct.bw, .slice x.a x.ct.ws.length x.c] 73)).heap.size := by simp; omega
     have hll : ((k' ++ [y]) : List Sg).length ≤ 1048576 := by rw [HN.out]; omega
     have HQA : Hid (∀ p, x.a = some p → (Value.slice (some ⟨g, 0, none⟩) N vc).ownBlock ≠ some p.block ∧ p.block < (m1.alloc (Obj.cells #[.int .i64 x.ct.v, .int .i64 x.ct.lo, .int .i64 x.ct.wd, .int .i64 x.ct.bw, .slice x.a x.ct.ws.length x.c] 73)).heap.size) := fun p hp => by
      have h9 := HQ4.out p hp
      refine ⟨fun e => ?_, by simp; omega⟩
      have h8 := HRW0.out _ e
      have h7 := (HG.out.row.lt e).1
      omega
     skip
     gi_wp2_with (gi_at_builtin; refine wpListIn_appS5 rfl _ _ rfl b _ (k' ++ [y]) x rfl GA.out.row _ _ rfl XA.out hll hsz ?_)
     intro g6 c6 w6 ho6 hg6 hl6
     have hgA := GA.out.app (k := (k' ++ [y])) (x := x) (N := N) (by rw [List.append_assoc]; exact ho6) hg6 (by first | exact hl6 | simpa using hl6) HQ1.out RA.out HQ3.out HQA.out hxl HNF.out (by first | (simp; done) | (rw [HN.out]; omega))
     have HGA := kide hgA
     have u0 := (bz_os5 GA.out.fx GA.out.row (by decide) hg6).cell 0
     have u1 := (bz_os5 GA.out.fx GA.out.row (by decide) hg6).froz 0
     have t0 := (bz_os5 GA.out.ox GA.out.row (by decide) hg6).cell 0
     have t1 := (bz_os5 GA.out.ox GA.out.row (by decide) hg6).froz 0
     simp at u0 t0
     have KA := kide (app_ko (x := x) (c6 := c6) (k := (k' ++ [y])) (ow := ow) (((Ko.refl (OG b ow (.slice (some ⟨g, 0, none⟩) N vc) (k' ++ [y])) W).below hm1.out).below BA.out) hg6 (by first | exact hl6 | simpa using hl6))
     clear ho6 hg6 hl6 hgA
     gi_wp2
     obtain ⟨G9, N9, B9⟩ := HGA.out
     exact ⟨((NZ0.out.trans (Nz.below BA.out)).trans N9).keeps _, (BW0.out.trans (BA.out.mono (by omega))).trans B9, KA.out.1, _, ⟨false, _, _, G9, rfl⟩, KA.out.2⟩
   | true =>
    rw [hone] at HCO
    have HON := kide hone
    clear hone
    gi_wp2
    refine wpIn_region_x (SA := fun _ => False) (SB := fun uu => Below W.heap.size W uu) (k := 999) hmx (by kernel_rfl) ?_
    have hm0 : Hid (Below W.heap.size W W.drew) := (Below.refl _ _).drew
    generalize W.drew = m0 at *
    try go_simp
    refine tkP (i := 0) (v := Value.int .i64 (M : Int)) rfl hm0.out ?_
    try go_simp
    refine tkP (i := 1) (v := Value.bool true) rfl hm0.out ?_
    try go_simp
    refine tkP (i := 2) (v := Value.bool true) rfl hm0.out ?_
    try go_simp
    refine tkS (i := 3) (v := Value.slice (some ⟨g, 0, none⟩) N vc) rfl hm0.out (fun uu hu => by have e0 := (kcell hu (b + 1 + 1) 0 lf).trans hfx; go_simp) ?_
    try go_simp
    refine tkP (i := 4) (v := Value.int .i64 (M : Int)) rfl hm0.out ?_
    try go_simp
    refine tkP (i := 5) (v := Value.pointer (some ⟨g, M * 5, none⟩)) rfl hm0.out ?_
    try go_simp
    refine tkS (i := 6) (v := Value.agg #[.int .i64 y.ct.v, .int .i64 y.ct.lo, .int .i64 y.ct.wd, .int .i64 y.ct.bw, .slice y.a y.ct.ws.length y.c]) rfl hm0.out (fun uu hu => by have e0 := (kcell hu g (M * 5) lg).trans c0; have e1 := (kcell hu g (M * 5 + 1) lg).trans c1; have e2 := (kcell hu g (M * 5 + 2) lg).trans c2; have e3 := (kcell hu g (M * 5 + 3) lg).trans c3; have e4 := (kcell hu g (M * 5 + 4) lg).trans c4; go_simp) ?_
    try go_simp
    refine tkS (i := 7) (v := Value.agg #[.int .i64 x.ct.v, .int .i64 x.ct.lo, .int .i64 x.ct.wd, .int .i64 x.ct.bw, .slice x.a x.ct.ws.length x.c]) rfl hm0.out (fun uu hu => by have e0 := (kcell hu Bx 0 lx).trans d0; have e1 := (kcell hu Bx 1 lx).trans d1; have e2 := (kcell hu Bx 2 lx).trans d2; have e3 := (kcell hu Bx 3 lx).trans d3; have e4 := (kcell hu Bx 4 lx).trans d4; go_simp) ?_
    try go_simp
    refine rdX (rs := [8]) (AllX.cons rfl (fun K hK => ?_) AllX.nil)
    go_simp
    refine Calls.mono (HCO.out m0) ?_
    rintro e m1 ⟨rfl, hbq⟩
    have hm1 : Hid (Below W.heap.size W m1) := hm0.out.trans (hbq.mono hm0.out.size)
    refine hK _ _ (Sx.behind (by kernel_rfl) hm1.out) ?_
    clear hK K hbq
    try go_simp
    refine tkP (i := 9) (v := Value.bool true) rfl hm1.out ?_
    try go_simp
    refine tkP (i := 10) (v := Value.bool true) rfl hm1.out ?_
    try go_simp
    refine wpAnyX_done (by kernel_rfl) ?_ _
    refine onlyN_in ?_
    have G1 : Hid (Gi w b L pre ow (.slice (some ⟨g, 0, none⟩) N vc) (k' ++ [y]) m1) := HG.out.later hm1.out (by omega)
    have X1 := kide (HX.out.later hm1.out)
    have R1 := kide (HQ2.out.later hm1.out)
    have NZ1 := kide (Nz.below hm1.out)
    have B1 : Hid (Below b W m1) := hm1.out.mono (by omega)
    have WDU : Hid (y.ct.wd + x.ct.wd ≤ 4096) := two_wide (F := k'.map Sg.ct) (pre := pre.map Sg.ct) (fun s hs => (HOK.out s hs).1) HSM.out (by have h9 := HG.out.nf.ok; rw [List.map_append] at h9; exact h9) (by have h9 := HG.out.bits; rw [List.map_append] at h9; exact h9) (by have h9 := HQ1.out; rw [List.map_append] at h9; exact h9)
    have hm1s : W.heap.size ≤ m1.heap.size := hm1.out.size
    have k0 := G1.out.fx.cell 0
    have o0 := G1.out.ox.cell 0
    simp at k0 o0
    obtain ⟨-, -, -, k3, k4⟩ := os5_last G1.out.row HMM.out
    have lf1 := G1.out.fx.lt
    have lg1 := (G1.out.row.lt (b := g) rfl).2
    have HCY := kide (fun u (hu : Below m1.heap.size m1 u) => copyO y.ct.bw y.a y.c y.ct.ws.length y.ct.ws u ((G1.out.rd y (by simp)).later hu) rfl (G1.out.no y (by simp)))
    cases ow with
    | false =>
     gi_wp2
     refine wpIn_region_x (SA := fun uu => uu.cell? ⟨b + 1 + 1, 0, none⟩ = some (Value.slice (some ⟨g, 0, none⟩) N vc) ∧ uu.cell? ⟨g, M * 5 + 3, none⟩ = some (Value.int .i64 y.ct.bw) ∧ uu.cell? ⟨g, M * 5 + 4, none⟩ = some (Value.slice y.a y.ct.ws.length y.c)) (SB := fun _ => True) (k := 10) hmx (by kernel_rfl) ?_
     have hn0 : Hid (Below m1.heap.size m1 m1.drew) := (Below.refl _ _).drew
     have c0_0 := (kcell hn0.out (b + 1 + 1) 0 lf1).trans k0
     have c1_0 := (kcell hn0.out g (M * 5 + 3) lg1).trans k3
     have c2_0 := (kcell hn0.out g (M * 5 + 4) lg1).trans k4
     generalize m1.drew = n0 at *
     have hs0 : Hid ((fun uu => uu.cell? ⟨b + 1 + 1, 0, none⟩ = some (Value.slice (some ⟨g, 0, none⟩) N vc) ∧ uu.cell? ⟨g, M * 5 + 3, none⟩ = some (Value.int .i64 y.ct.bw) ∧ uu.cell? ⟨g, M * 5 + 4, none⟩ = some (Value.slice y.a y.ct.ws.length y.c)) n0) := ⟨c0_0, c1_0, c2_0⟩
     try go_simp
     refine tkY (i := 0) (v := Value.slice (some ⟨g, 0, none⟩) N vc) rfl hs0.out (fun uu hu => by obtain ⟨e0, e1, e2⟩ := hu; go_simp) ?_
     try go_simp
     refine tkU (i := 1) (v := Value.int .i64 (M : Int)) rfl (Sx.before (by kernel_rfl) hs0.out) ?_
     try go_simp
     refine tkY (i := 2) (v := Value.slice (some ⟨g, 0, none⟩) N vc) rfl hs0.out (fun uu hu => by obtain ⟨e0, e1, e2⟩ := hu; go_simp) ?_
     try go_simp
     refine tkU (i := 3) (v := Value.int .i64 (M : Int)) rfl (Sx.before (by kernel_rfl) hs0.out) ?_
     try go_simp
     refine tkU (i := 4) (v := Value.pointer (some ⟨g, M * 5, none⟩)) rfl (Sx.before (by kernel_rfl) hs0.out) ?_
     try go_simp
     refine tkU (i := 5) (v := Value.pointer (some ⟨g, M * 5 + 3, none⟩)) rfl (Sx.before (by kernel_rfl) hs0.out) ?_
     try go_simp
     refine tkY (i := 6) (v := Value.agg #[.int .i64 y.ct.bw, .slice y.a y.ct.ws.length y.c]) rfl hs0.out (fun uu hu => by obtain ⟨e0, e1, e2⟩ := hu; go_simp) ?_
     try go_simp
     refine rdX (rs := [7]) (AllX.cons rfl (fun K hK => ?_) AllX.nil)
     go_simp
     refine Calls.mono (HCY.out n0 hn0.out) ?_
     rintro e n1 ⟨a2, c2, rfl, hO2, hB2⟩
     have hn1 : Hid (Below m1.heap.size m1 n1) := hn0.out.trans (hB2.mono hn0.out.size)
     have HO2 : Hid (OwW n1 m1.heap.size (.slice a2 y.ct.ws.length c2) y.ct.ws) := oww_low hO2 hn0.out.size
     clear hO2 hB2
     have c0_1 := (kcell hn1.out (b + 1 + 1) 0 lf1).trans k0
     have c1_1 := (kcell hn1.out g (M * 5 + 3) lg1).trans k3
     have c2_1 := (kcell hn1.out g (M * 5 + 4) lg1).trans k4
     have hs1 : Hid ((fun uu => uu.cell? ⟨b + 1 + 1, 0, none⟩ = some (Value.slice (some ⟨g, 0, none⟩) N vc) ∧ uu.cell? ⟨g, M * 5 + 3, none⟩ = some (Value.int .i64 y.ct.bw) ∧ uu.cell? ⟨g, M * 5 + 4, none⟩ = some (Value.slice y.a y.ct.ws.length y.c)) n1) := ⟨c0_1, c1_1, c2_1⟩
     refine hK _ _ (Sx.before (by kernel_rfl) hs1.out) ?_
     clear hK K
     try go_simp
     refine tkU (i := 8) (v := Value.pointer (some ⟨g, M * 5, none⟩)) rfl (Sx.before (by kernel_rfl) hs1.out) ?_
     try go_simp
     refine tkU (i := 9) (v := Value.pointer (some ⟨g, M * 5 + 3, none⟩)) rfl (Sx.before (by kernel_rfl) hs1.out) ?_
     try go_simp
     refine rdX (rs := [10]) (AllX.cons rfl (fun K hK => ?_) AllX.nil)
     have GN := kide (G1.out.later hn1.out (by omega))
     have fz := GN.out.row.typed (b := g) rfl
     obtain ⟨cur9, hcur9⟩ := fz
     have fz3 := frozen_of_row n1 g (M * 5 + 3) cur9 _ hcur9
     have fz4 := frozen_of_row n1 g (M * 5 + 4) cur9 _ hcur9
     go_simp
     refine hK _ _ (Sx.behind (by kernel_rfl) trivial) ?_
     clear hK K
     try go_simp
     refine wpAnyX_done (by kernel_rfl) ?_ _
     refine onlyN_in ?_
     obtain ⟨Y, hYc, hYa, hYd⟩ : ∃ Y : Sg, Y.ct = y.ct ∧ Y.a = a2 ∧ Y.c = c2 := ⟨⟨y.ct, a2, c2⟩, rfl, rfl, rfl⟩
     subst hYa hYd
     have hU : (n1.setCell ⟨g, M * 5 + 3, none⟩ (Value.int .i64 y.ct.bw)).setCell ⟨g, M * 5 + 4, none⟩ (Value.slice Y.a y.ct.ws.length Y.c) = put2 n1 g (M * 5) Y := by unfold put2; rw [hYc]
     have hn1s : m1.heap.size ≤ n1.heap.size := hn1.out.size
     have HO3 : Hid (OwW n1 m1.heap.size (.slice Y.a Y.ct.ws.length Y.c) Y.ct.ws) := by show OwW _ _ _ _; rw [hYc]; exact HO2.out
     have YO : Hid (okS Y.ct) := by show okS _; rw [hYc]; exact HYO.out
     have ONE : Hid (oneB Y.ct x.ct = true) := by show _ = _; rw [hYc]; exact HON.out
     rw [← hYc] at WDU
     have HYB : Hid (∀ p, Y.a = some p → m1.heap.size ≤ p.block ∧ p.block < n1.heap.size) := fun p hp9 => World.ownsRow.lt HO3.out p.block (by rw [hp9]; rfl)
     obtain ⟨P1, P2⟩ := os5_put2 GN.out.row HMM.out hYc
     have SW := GN.out.swap P2 P1 hYc (rd_oww HO3.out (by have := YO.out.short; omega) YO.out.2.2.1) (fun e => by (rcases HO3.out.2 with ⟨e9, -⟩ | ⟨g9, cap, cur, e9, -⟩ <;> simp [e] at e9; exact e9.2)) (fun p hp9 => ⟨(HYB.out p hp9).2, by have := (HYB.out p hp9).1; omega⟩)
     have GU := kide SW.1
     have HP2 := kide P2
     have HAU : Hid (OwW (put2 n1 g (M * 5) Y) b (.slice Y.a Y.ct.ws.length Y.c) Y.ct.ws) := oww_low (World.ownsRow.kept HO3.out P2 (.inr fun e => by
      cases hza : Y.a with
      | none => rw [hza] at e; cases e
      | some p => rw [hza] at e; have h8 := (HYB.out p hza).1; have h7 : p.block = g := Option.some.inj e; omega)) (by omega)
     have HDU : Hid (∀ t ∈ k', ∀ p q, Y.a = some p → t.a = some q → p.block ≠ q.block) := fun t ht p q hp9 hq9 => by
      have h8 := (HYB.out p hp9).1
      have h7 := G1.out.pl t (by simp [ht]) q hq9
      omega
     have XU := kide ((fun (h : Bz n1 Bx _ _) (e : Bx ≠ g) => (heap_put2 h e : Bz (put2 n1 g (M * 5) Y) Bx _ _)) (X1.out.later hn1.out) (by have h8 := HBX.out; have h7 := HRW0.out g rfl; omega))
     have RU : Hid (Rd (put2 n1 g (M * 5) Y) x.a x.ct.ws) := rd_gr (R1.out.later hn1.out) P2 (fun p hp9 e => by have h8 := HQ4.out p hp9; have h7 := HRW0.out g rfl; have h6 := (HG.out.row.lt (b := g) rfl).1; have h5 : g = p.block := Option.some.inj e; omega)
     have NEU : Hid (∀ p q, Y.a = some p → x.a = some q → p.block ≠ q.block) := fun p q hp9 hq9 => by have h8 := (HYB.out p hp9).1; have h7 := (HQ4.out q hq9).2; omega
     have NZU := kide ((NZ1.out.trans (Nz.below hn1.out)).trans SW.2.1)
     have BU := kide ((B1.out.trans (hn1.out.mono (by omega))).trans SW.2.2)
     have KOU : Hid (Ko (OG b false (.slice (some ⟨g, 0, none⟩) N vc) (k' ++ [y])) W (put2 n1 g (M * 5) Y)) := (((Ko.refl _ W).below hm1.out).below hn1.out).grown P2 (fun r hr => .inl (.inr (.inr (.inl hr))))
     have HYK : Hid (∀ r, (Value.slice Y.a Y.ct.ws.length Y.c).ownBlock = some r → OG b false (.slice (some ⟨g, 0, none⟩) N vc) (k' ++ [y]) r ∨ W.heap.size ≤ r) := fun r hr => .inr (by have h9 := World.ownsRow.lt HO3.out r hr; omega)
     clear SW P1 P2
     rw [hU]
     have HYC := kide hYc
     clear hU hYc
     generalize put2 n1 g (M * 5) Y = U at *
     gi_wp2
     refine wpIn_region_x (SA := fun uu => uu.cell? ⟨b + 1 + 1, 0, none⟩ = some (Value.slice (some ⟨g, 0, none⟩) N vc) ∧ uu.cell? ⟨g, M * 5, none⟩ = some (Value.int .i64 Y.ct.v) ∧ uu.cell? ⟨g, M * 5 + 1, none⟩ = some (Value.int .i64 Y.ct.lo) ∧ uu.cell? ⟨g, M * 5 + 2, none⟩ = some (Value.int .i64 Y.ct.wd) ∧ uu.cell? ⟨g, M * 5 + 3, none⟩ = some (Value.int .i64 Y.ct.bw) ∧ uu.cell? ⟨g, M * 5 + 4, none⟩ = some (Value.slice Y.a Y.ct.ws.length Y.c) ∧ uu.cell? ⟨Bx, 0, none⟩ = some (Value.int .i64 x.ct.v) ∧ uu.cell? ⟨Bx, 1, none⟩ = some (Value.int .i64 x.ct.lo) ∧ uu.cell? ⟨Bx, 2, none⟩ = some (Value.int .i64 x.ct.wd) ∧ uu.cell? ⟨Bx, 3, none⟩ = some (Value.int .i64 x.ct.bw) ∧ uu.cell? ⟨Bx, 4, none⟩ = some (Value.slice x.a x.ct.ws.length x.c)) (SB := fun _ => True) (k := 9) hmx (by kernel_rfl) ?_
     have hz0 : Hid (Below U.heap.size U U.drew) := (Below.refl _ _).drew
     have GZ := kide (GU.out.later hz0.out (by have := GU.out.r0.lt; omega))
     have HAZ := kide (oww_later HAU.out hz0.out)
     have XZ := kide (XU.out.later hz0.out)
     have RZ := kide (RU.out.later hz0.out)
     generalize U.drew = z0 at *
     have c0_0 := GZ.out.fx.cell 0
     obtain ⟨c1_0, c2_0, c3_0, c4_0, c5_0⟩ := os5_last GZ.out.row HMM.out
     have c6_0 := XZ.out.cell 0
     have c7_0 := XZ.out.cell 1
     have c8_0 := XZ.out.cell 2
     have c9_0 := XZ.out.cell 3
     have c10_0 := XZ.out.cell 4
     simp at c0_0 c6_0 c7_0 c8_0 c9_0 c10_0
     have hs0 : Hid ((fun uu => uu.cell? ⟨b + 1 + 1, 0, none⟩ = some (Value.slice (some ⟨g, 0, none⟩) N vc) ∧ uu.cell? ⟨g, M * 5, none⟩ = some (Value.int .i64 Y.ct.v) ∧ uu.cell? ⟨g, M * 5 + 1, none⟩ = some (Value.int .i64 Y.ct.lo) ∧ uu.cell? ⟨g, M * 5 + 2, none⟩ = some (Value.int .i64 Y.ct.wd) ∧ uu.cell? ⟨g, M * 5 + 3, none⟩ = some (Value.int .i64 Y.ct.bw) ∧ uu.cell? ⟨g, M * 5 + 4, none⟩ = some (Value.slice Y.a Y.ct.ws.length Y.c) ∧ uu.cell? ⟨Bx, 0, none⟩ = some (Value.int .i64 x.ct.v) ∧ uu.cell? ⟨Bx, 1, none⟩ = some (Value.int .i64 x.ct.lo) ∧ uu.cell? ⟨Bx, 2, none⟩ = some (Value.int .i64 x.ct.wd) ∧ uu.cell? ⟨Bx, 3, none⟩ = some (Value.int .i64 x.ct.bw) ∧ uu.cell? ⟨Bx, 4, none⟩ = some (Value.slice x.a x.ct.ws.length x.c)) z0) := ⟨c0_0, c1_0, c2_0, c3_0, c4_0, c5_0, c6_0, c7_0, c8_0, c9_0, c10_0⟩
     try go_simp
     refine tkY (i := 0) (v := Value.slice (some ⟨g, 0, none⟩) N vc) rfl hs0.out (fun uu hu => by obtain ⟨e0, e1, e2, e3, e4, e5, e6, e7, e8, e9, e10⟩ := hu; go_simp) ?_
     try go_simp
     refine tkU (i := 1) (v := Value.int .i64 (M : Int)) rfl (Sx.before (by kernel_rfl) hs0.out) ?_
     try go_simp
     refine tkY (i := 2) (v := Value.slice (some ⟨g, 0, none⟩) N vc) rfl hs0.out (fun uu hu => by obtain ⟨e0, e1, e2, e3, e4, e5, e6, e7, e8, e9, e10⟩ := hu; go_simp) ?_
     try go_simp
     refine tkU (i := 3) (v := Value.int .i64 (M : Int)) rfl (Sx.before (by kernel_rfl) hs0.out) ?_
     try go_simp
     refine tkU (i := 4) (v := Value.pointer (some ⟨g, M * 5, none⟩)) rfl (Sx.before (by kernel_rfl) hs0.out) ?_
     try go_simp
     refine tkY (i := 5) (v := Value.agg #[.int .i64 Y.ct.v, .int .i64 Y.ct.lo, .int .i64 Y.ct.wd, .int .i64 Y.ct.bw, .slice Y.a Y.ct.ws.length Y.c]) rfl hs0.out (fun uu hu => by obtain ⟨e0, e1, e2, e3, e4, e5, e6, e7, e8, e9, e10⟩ := hu; go_simp) ?_
     try go_simp
     refine tkY (i := 6) (v := Value.agg #[.int .i64 x.ct.v, .int .i64 x.ct.lo, .int .i64 x.ct.wd, .int .i64 x.ct.bw, .slice x.a x.ct.ws.length x.c]) rfl hs0.out (fun uu hu => by obtain ⟨e0, e1, e2, e3, e4, e5, e6, e7, e8, e9, e10⟩ := hu; go_simp) ?_
     try go_simp
     refine rdX (rs := [7]) (AllX.cons rfl (fun K hK => ?_) AllX.nil)
     go_simp
     refine Calls.mono (oneSeg_any Y.ct x.ct b Y.a x.a Y.c x.c z0 YO.out HXO.out ONE.out WDU.out (by have := GZ.out.r0.lt; omega) HAZ.out RZ.out NEU.out) ?_
     rintro e z1 ⟨V, he, hV, hVl, hVg⟩
     obtain ⟨a3, c3, rfl⟩ := oww_form hV
     obtain ⟨Z, hZc, hZa, hZd⟩ : ∃ Z : Sg, Z.ct = oneS Y.ct x.ct ∧ Z.a = a3 ∧ Z.c = c3 := ⟨⟨_, a3, c3⟩, rfl, rfl, rfl⟩
     subst hZa hZd
     rw [← hZc] at he hV hVl
     subst he
     have FX1 := kide (bz_oww GZ.out.fx HAZ.out (by decide) hVg)
     have RW1 := kide (os5_oww GZ.out.row HAZ.out hVg)
     have XX1 := kide (bz_oww XZ.out HAZ.out (by decide) hVg)
     have OX1 := kide (bz_oww GZ.out.ox HAZ.out (by decide) hVg)
     have c0_1 := FX1.out.cell 0
     obtain ⟨c1_1, c2_1, c3_1, c4_1, c5_1⟩ := os5_last RW1.out HMM.out
     have c6_1 := XX1.out.cell 0
     have c7_1 := XX1.out.cell 1
     have c8_1 := XX1.out.cell 2
     have c9_1 := XX1.out.cell 3
     have c10_1 := XX1.out.cell 4
     simp at c0_1 c6_1 c7_1 c8_1 c9_1 c10_1
     have MK := kide (merge_ko (z := Z) (((KOU.out).below hz0.out)) (.inl rfl) (.inr (.inl rfl)) (.inr (.inr (.inl rfl))) HYK.out RW1.out HMM.out hVg hVl)
     have MG := kide (GZ.out.merge HMM.out HAZ.out HDU.out hVg hZc hV hVl HXO.out ONE.out WDU.out HQ1.out)
     clear hV hVl hVg hZc
     have hs1 : Hid ((fun uu => uu.cell? ⟨b + 1 + 1, 0, none⟩ = some (Value.slice (some ⟨g, 0, none⟩) N vc) ∧ uu.cell? ⟨g, M * 5, none⟩ = some (Value.int .i64 Y.ct.v) ∧ uu.cell? ⟨g, M * 5 + 1, none⟩ = some (Value.int .i64 Y.ct.lo) ∧ uu.cell? ⟨g, M * 5 + 2, none⟩ = some (Value.int .i64 Y.ct.wd) ∧ uu.cell? ⟨g, M * 5 + 3, none⟩ = some (Value.int .i64 Y.ct.bw) ∧ uu.cell? ⟨g, M * 5 + 4, none⟩ = some (Value.slice Y.a Y.ct.ws.length Y.c) ∧ uu.cell? ⟨Bx, 0, none⟩ = some (Value.int .i64 x.ct.v) ∧ uu.cell? ⟨Bx, 1, none⟩ = some (Value.int .i64 x.ct.lo) ∧ uu.cell? ⟨Bx, 2, none⟩ = some (Value.int .i64 x.ct.wd) ∧ uu.cell? ⟨Bx, 3, none⟩ = some (Value.int .i64 x.ct.bw) ∧ uu.cell? ⟨Bx, 4, none⟩ = some (Value.slice x.a x.ct.ws.length x.c)) z1) := ⟨c0_1, c1_1, c2_1, c3_1, c4_1, c5_1, c6_1, c7_1, c8_1, c9_1, c10_1⟩
     refine hK _ _ (Sx.before (by kernel_rfl) hs1.out) ?_
     clear hK K
     try go_simp
     refine tkU (i := 8) (v := Value.pointer (some ⟨g, M * 5, none⟩)) rfl (Sx.before (by kernel_rfl) hs1.out) ?_
     try go_simp
     refine rdX (rs := [9]) (AllX.cons rfl (fun K hK => ?_) AllX.nil)
     obtain ⟨cur9, hcur9⟩ := RW1.out.typed (b := g) rfl
     have fz0 := frozen_of_row z1 g (M * 5) cur9 _ hcur9
     have fz1 := frozen_of_row z1 g (M * 5 + 1) cur9 _ hcur9
     have fz2 := frozen_of_row z1 g (M * 5 + 2) cur9 _ hcur9
     have fz3 := frozen_of_row z1 g (M * 5 + 3) cur9 _ hcur9
     have fz4 := frozen_of_row z1 g (M * 5 + 4) cur9 _ hcur9
     go_simp
     refine hK _ _ (Sx.behind (by kernel_rfl) trivial) ?_
     clear hK K
     try go_simp
     refine rdX (rs := [10]) (AllX.cons rfl (fun K hK => ?_) AllX.nil)
     have OX2 := kide (bz_os5 OX1.out RW1.out (by decide) (os5_put5 Z RW1.out HMM.out).2)
     unfold put5 at OX2 MG MK
     generalize (((((z1.setCell ⟨g, M * 5, none⟩ (Value.int .i64 Z.ct.v)).setCell ⟨g, M * 5 + 1, none⟩ (Value.int .i64 Z.ct.lo)).setCell ⟨g, M * 5 + 2, none⟩ (Value.int .i64 Z.ct.wd)).setCell ⟨g, M * 5 + 3, none⟩ (Value.int .i64 Z.ct.bw)).setCell ⟨g, M * 5 + 4, none⟩ (Value.slice Z.a Z.ct.ws.length Z.c)) = z2 at *
     have ob0 := OX2.out.cell 0
     have ob1 := OX2.out.froz 0
     simp at ob0
     go_simp
     refine hK _ _ (Sx.behind (by kernel_rfl) trivial) ?_
     clear hK K
     try go_simp
     refine wpAnyX_done (by kernel_rfl) ?_ _
     refine onlyN_in ?_
     try gi_wp2
     have MG9 := MG.out
     exact ⟨((NZU.out.trans (Nz.below hz0.out)).trans MG9.2.1).keeps _, (BU.out.trans (hz0.out.mono (by have := GU.out.r0.lt; omega))).trans MG9.2.2, MK.out.1, _, (by first | exact .inr ⟨_, _, MG9.1, rfl⟩ | exact ⟨true, _, _, MG9.1, rfl⟩), MK.out.2⟩
    | true =>
     obtain ⟨l', y', e, hA, hd⟩ := G1.out.own rfl
     obtain ⟨e1, e2⟩ := List.append_inj' e rfl
     cases e1
     cases e2
     have GU := kide G1.out
     have HAU := kide hA
     have HDU := kide hd
     have XU := kide X1.out
     have RU := kide R1.out
     have NZU := kide NZ1.out
     have BU := kide B1.out
     have YO := kide HYO.out
     have ONE := kide HON.out
     have NEU : Hid (∀ p q, y.a = some p → x.a = some q → p.block ≠ q.block) := fun p q hp9 hq9 => by have h8 := (oww_typed HAU.out (b := p.block) (by rw [hp9]; rfl)).2; have h7 := (HQ4.out q hq9).1; have h6 := PL0.out y (by simp) p hp9; omega
     have KOU : Hid (Ko (OG b true (.slice (some ⟨g, 0, none⟩) N vc) (k' ++ [y])) W m1) := (Ko.refl _ W).below hm1.out
     have HYK : Hid (∀ r, (Value.slice y.a y.ct.ws.length y.c).ownBlock = some r → OG b true (.slice (some ⟨g, 0, none⟩) N vc) (k' ++ [y]) r ∨ W.heap.size ≤ r) := fun r hr => .inl (.inr (.inr (.inr ⟨rfl, k', y, by (cases hya : y.a with | none => (rw [hya] at hr; cases hr) | some q => (rw [hya] at hr; exact ⟨q, rfl, rfl, Option.some.inj hr⟩))⟩)))
     clear hA hd e
     gi_wp2
     refine wpIn_region_x (SA := fun uu => uu.cell? ⟨b + 1 + 1, 0, none⟩ = some (Value.slice (some ⟨g, 0, none⟩) N vc) ∧ uu.cell? ⟨g, M * 5, none⟩ = some (Value.int .i64 y.ct.v) ∧ uu.cell? ⟨g, M * 5 + 1, none⟩ = some (Value.int .i64 y.ct.lo) ∧ uu.cell? ⟨g, M * 5 + 2, none⟩ = some (Value.int .i64 y.ct.wd) ∧ uu.cell? ⟨g, M * 5 + 3, none⟩ = some (Value.int .i64 y.ct.bw) ∧ uu.cell? ⟨g, M * 5 + 4, none⟩ = some (Value.slice y.a y.ct.ws.length y.c) ∧ uu.cell? ⟨Bx, 0, none⟩ = some (Value.int .i64 x.ct.v) ∧ uu.cell? ⟨Bx, 1, none⟩ = some (Value.int .i64 x.ct.lo) ∧ uu.cell? ⟨Bx, 2, none⟩ = some (Value.int .i64 x.ct.wd) ∧ uu.cell? ⟨Bx, 3, none⟩ = some (Value.int .i64 x.ct.bw) ∧ uu.cell? ⟨Bx, 4, none⟩ = some (Value.slice x.a x.ct.ws.length x.c)) (SB := fun _ => True) (k := 9) hmx (by kernel_rfl) ?_
     have hz0 : Hid (Below m1.heap.size m1 m1.drew) := (Below.refl _ _).drew
     have GZ := kide (GU.out.later hz0.out (by have := GU.out.r0.lt; omega))
     have HAZ := kide (oww_later HAU.out hz0.out)
     have XZ := kide (XU.out.later hz0.out)
     have RZ := kide (RU.out.later hz0.out)
     generalize m1.drew = z0 at *
     have c0_0 := GZ.out.fx.cell 0
     obtain ⟨c1_0, c2_0, c3_0, c4_0, c5_0⟩ := os5_last GZ.out.row HMM.out
     have c6_0 := XZ.out.cell 0
     have c7_0 := XZ.out.cell 1
     have c8_0 := XZ.out.cell 2
     have c9_0 := XZ.out.cell 3
     have c10_0 := XZ.out.cell 4
     simp at c0_0 c6_0 c7_0 c8_0 c9_0 c10_0
     have hs0 : Hid ((fun uu => uu.cell? ⟨b + 1 + 1, 0, none⟩ = some (Value.slice (some ⟨g, 0, none⟩) N vc) ∧ uu.cell? ⟨g, M * 5, none⟩ = some (Value.int .i64 y.ct.v) ∧ uu.cell? ⟨g, M * 5 + 1, none⟩ = some (Value.int .i64 y.ct.lo) ∧ uu.cell? ⟨g, M * 5 + 2, none⟩ = some (Value.int .i64 y.ct.wd) ∧ uu.cell? ⟨g, M * 5 + 3, none⟩ = some (Value.int .i64 y.ct.bw) ∧ uu.cell? ⟨g, M * 5 + 4, none⟩ = some (Value.slice y.a y.ct.ws.length y.c) ∧ uu.cell? ⟨Bx, 0, none⟩ = some (Value.int .i64 x.ct.v) ∧ uu.cell? ⟨Bx, 1, none⟩ = some (Value.int .i64 x.ct.lo) ∧ uu.cell? ⟨Bx, 2, none⟩ = some (Value.int .i64 x.ct.wd) ∧ uu.cell? ⟨Bx, 3, none⟩ = some (Value.int .i64 x.ct.bw) ∧ uu.cell? ⟨Bx, 4, none⟩ = some (Value.slice x.a x.ct.ws.length x.c)) z0) := ⟨c0_0, c1_0, c2_0, c3_0, c4_0, c5_0, c6_0, c7_0, c8_0, c9_0, c10_0⟩
     try go_simp
     refine tkY (i := 0) (v := Value.slice (some ⟨g, 0, none⟩) N vc) rfl hs0.out (fun uu hu => by obtain ⟨e0, e1, e2, e3, e4, e5, e6, e7, e8, e9, e10⟩ := hu; go_simp) ?_
     try go_simp
     refine tkU (i := 1) (v := Value.int .i64 (M : Int)) rfl (Sx.before (by kernel_rfl) hs0.out) ?_
     try go_simp
     refine tkY (i := 2) (v := Value.slice (some ⟨g, 0, none⟩) N vc) rfl hs0.out (fun uu hu => by obtain ⟨e0, e1, e2, e3, e4, e5, e6, e7, e8, e9, e10⟩ := hu; go_simp) ?_
     try go_simp
     refine tkU (i := 3) (v := Value.int .i64 (M : Int)) rfl (Sx.before (by kernel_rfl) hs0.out) ?_
     try go_simp
     refine tkU (i := 4) (v := Value.pointer (some ⟨g, M * 5, none⟩)) rfl (Sx.before (by kernel_rfl) hs0.out) ?_
     try go_simp
     refine tkY (i := 5) (v := Value.agg #[.int .i64 y.ct.v, .int .i64 y.ct.lo, .int .i64 y.ct.wd, .int .i64 y.ct.bw, .slice y.a y.ct.ws.length y.c]) rfl hs0.out (fun uu hu => by obtain ⟨e0, e1, e2, e3, e4, e5, e6, e7, e8, e9, e10⟩ := hu; go_simp) ?_
     try go_simp
     refine tkY (i := 6) (v := Value.agg #[.int .i64 x.ct.v, .int .i64 x.ct.lo, .int .i64 x.ct.wd, .int .i64 x.ct.bw, .slice x.a x.ct.ws.length x.c]) rfl hs0.out (fun uu hu => by obtain ⟨e0, e1, e2, e3, e4, e5, e6, e7, e8, e9, e10⟩ := hu; go_simp) ?_
     try go_simp
     refine rdX (rs := [7]) (AllX.cons rfl (fun K hK => ?_) AllX.nil)
     go_simp
     refine Calls.mono (oneSeg_any y.ct x.ct b y.a x.a y.c x.c z0 YO.out HXO.out ONE.out WDU.out (by have := GZ.out.r0.lt; omega) HAZ.out RZ.out NEU.out) ?_
     rintro e z1 ⟨V, he, hV, hVl, hVg⟩
     obtain ⟨a3, c3, rfl⟩ := oww_form hV
     obtain ⟨Z, hZc, hZa, hZd⟩ : ∃ Z : Sg, Z.ct = oneS y.ct x.ct ∧ Z.a = a3 ∧ Z.c = c3 := ⟨⟨_, a3, c3⟩, rfl, rfl, rfl⟩
     subst hZa hZd
     rw [← hZc] at he hV hVl
     subst he
     have FX1 := kide (bz_oww GZ.out.fx HAZ.out (by decide) hVg)
     have RW1 := kide (os5_oww GZ.out.row HAZ.out hVg)
     have XX1 := kide (bz_oww XZ.out HAZ.out (by decide) hVg)
     have OX1 := kide (bz_oww GZ.out.ox HAZ.out (by decide) hVg)
     have c0_1 := FX1.out.cell 0
     obtain ⟨c1_1, c2_1, c3_1, c4_1, c5_1⟩ := os5_last RW1.out HMM.out
     have c6_1 := XX1.out.cell 0
     have c7_1 := XX1.out.cell 1
     have c8_1 := XX1.out.cell 2
     have c9_1 := XX1.out.cell 3
     have c10_1 := XX1.out.cell 4
     simp at c0_1 c6_1 c7_1 c8_1 c9_1 c10_1
     have MK := kide (merge_ko (z := Z) (((KOU.out).below hz0.out)) (.inl rfl) (.inr (.inl rfl)) (.inr (.inr (.inl rfl))) HYK.out RW1.out HMM.out hVg hVl)
     have MG := kide (GZ.out.merge HMM.out HAZ.out HDU.out hVg hZc hV hVl HXO.out ONE.out WDU.out HQ1.out)
     clear hV hVl hVg hZc
     have hs1 : Hid ((fun uu => uu.cell? ⟨b + 1 + 1, 0, none⟩ = some (Value.slice (some ⟨g, 0, none⟩) N vc) ∧ uu.cell? ⟨g, M * 5, none⟩ = some (Value.int .i64 y.ct.v) ∧ uu.cell? ⟨g, M * 5 + 1, none⟩ = some (Value.int .i64 y.ct.lo) ∧ uu.cell? ⟨g, M * 5 + 2, none⟩ = some (Value.int .i64 y.ct.wd) ∧ uu.cell? ⟨g, M * 5 + 3, none⟩ = some (Value.int .i64 y.ct.bw) ∧ uu.cell? ⟨g, M * 5 + 4, none⟩ = some (Value.slice y.a y.ct.ws.length y.c) ∧ uu.cell? ⟨Bx, 0, none⟩ = some (Value.int .i64 x.ct.v) ∧ uu.cell? ⟨Bx, 1, none⟩ = some (Value.int .i64 x.ct.lo) ∧ uu.cell? ⟨Bx, 2, none⟩ = some (Value.int .i64 x.ct.wd) ∧ uu.cell? ⟨Bx, 3, none⟩ = some (Value.int .i64 x.ct.bw) ∧ uu.cell? ⟨Bx, 4, none⟩ = some (Value.slice x.a x.ct.ws.length x.c)) z1) := ⟨c0_1, c1_1, c2_1, c3_1, c4_1, c5_1, c6_1, c7_1, c8_1, c9_1, c10_1⟩
     refine hK _ _ (Sx.before (by kernel_rfl) hs1.out) ?_
     clear hK K
     try go_simp
     refine tkU (i := 8) (v := Value.pointer (some ⟨g, M * 5, none⟩)) rfl (Sx.before (by kernel_rfl) hs1.out) ?_
     try go_simp
     refine rdX (rs := [9]) (AllX.cons rfl (fun K hK => ?_) AllX.nil)
     obtain ⟨cur9, hcur9⟩ := RW1.out.typed (b := g) rfl
     have fz0 := frozen_of_row z1 g (M * 5) cur9 _ hcur9
     have fz1 := frozen_of_row z1 g (M * 5 + 1) cur9 _ hcur9
     have fz2 := frozen_of_row z1 g (M * 5 + 2) cur9 _ hcur9
     have fz3 := frozen_of_row z1 g (M * 5 + 3) cur9 _ hcur9
     have fz4 := frozen_of_row z1 g (M * 5 + 4) cur9 _ hcur9
     go_simp
     refine hK _ _ (Sx.behind (by kernel_rfl) trivial) ?_
     clear hK K
     try go_simp
     refine rdX (rs := [10]) (AllX.cons rfl (fun K hK => ?_) AllX.nil)
     have OX2 := kide (bz_os5 OX1.out RW1.out (by decide) (os5_put5 Z RW1.out HMM.out).2)
     unfold put5 at OX2 MG MK
     generalize (((((z1.setCell ⟨g, M * 5, none⟩ (Value.int .i64 Z.ct.v)).setCell ⟨g, M * 5 + 1, none⟩ (Value.int .i64 Z.ct.lo)).setCell ⟨g, M * 5 + 2, none⟩ (Value.int .i64 Z.ct.wd)).setCell ⟨g, M * 5 + 3, none⟩ (Value.int .i64 Z.ct.bw)).setCell ⟨g, M * 5 + 4, none⟩ (Value.slice Z.a Z.ct.ws.length Z.c)) = z2 at *
     have ob0 := OX2.out.cell 0
     have ob1 := OX2.out.froz 0
     simp at ob0
     go_simp
     refine hK _ _ (Sx.behind (by kernel_rfl) trivial) ?_
     clear hK K
     try go_simp
     refine wpAnyX_done (by kernel_rfl) ?_ _
     refine onlyN_in ?_
     try gi_wp2
     have MG9 := MG.out
     exact ⟨((NZU.out.trans (Nz.below hz0.out)).trans MG9.2.1).keeps _, (BU.out.trans (hz0.out.mono (by have := GU.out.r0.lt; omega))).trans MG9.2.2, MK.out.1, _, (by first | exact .inr ⟨_, _, MG9.1, rfl⟩ | exact ⟨true, _, _, MG9.1, rfl⟩), MK.out.2⟩
 case done =>
  rintro D xs O W hD hS ⟨ow, v, l, h, -⟩ hdf
  simp only [] at h
  obtain ⟨va, vc, rfl⟩ := h.row.form
  obtain ⟨N, hN⟩ : ∃ N, l.length = N := ⟨_, rfl⟩
  rw [hN] at h
  have f0 := h.fx.cell 0
  have r0 := h.r0.cell 0
  have r1 := h.r1.cell 0
  have s0 := h.r0.froz 0
  have s1 := h.r1.froz 0
  simp at f0 r0 r1
  have Y1 : Hid (Bz ((W.setCell ⟨b, 0, none⟩ (.slice va N vc)).setCell ⟨b + 1, 0, none⟩ (.bool true)) b #[.slice va N vc] 45) := (h.r0.set 0 _).other (by omega) 0 _
  have Y2 : Hid (Bz ((W.setCell ⟨b, 0, none⟩ (.slice va N vc)).setCell ⟨b + 1, 0, none⟩ (.bool true)) (b + 1) #[.bool true] 4) := (h.r1.other (by omega) 0 _).set 0 _
  have KD : Hid (((W.setCell ⟨b, 0, none⟩ (.slice va N vc)).setCell ⟨b + 1, 0, none⟩ (.bool true)).heap[D]? = some (.deferred (some []))) := by
   show _ = _
   rw [heap_setCell_other _ _ _ _ (by simp only []; omega), heap_setCell_other _ _ _ _ (by simp only []; omega)]
   exact hdf
  have CD : Hid (Cz ((W.setCell ⟨b, 0, none⟩ (.slice va N vc)).setCell ⟨b + 1, 0, none⟩ (.bool true)) (((W.setCell ⟨b, 0, none⟩ (.slice va N vc)).setCell ⟨b + 1, 0, none⟩ (.bool true)).putObj D (.deferred none))) := Cz.put _ KD.out rfl
  have BF : Hid (Below b w (((W.setCell ⟨b, 0, none⟩ (.slice va N vc)).setCell ⟨b + 1, 0, none⟩ (.bool true)).putObj D (.deferred none))) := by
   refine ((h.bel.setCell (p := ⟨b, 0, none⟩) (Nat.le_refl _) (.slice va N vc)).setCell (p := ⟨b + 1, 0, none⟩) (Nat.le_succ _) (.bool true)).trans ?_
   exact ⟨rfl, rfl, rfl, by simp, fun k hk => World.putObj_heap_other (fun e => by omega)⟩
  have OF : Hid (OS5 (((W.setCell ⟨b, 0, none⟩ (.slice va N vc)).setCell ⟨b + 1, 0, none⟩ (.bool true)).putObj D (.deferred none)) b (.slice va N vc) l) := by
   refine cz_own ?_ CD.out
   refine OS5.move h.row fun k hk => ?_
   obtain ⟨cur, hc⟩ := h.row.typed hk
   have n1 : k ≠ b := fun e => by
    have h9 := h.r0
    unfold Bz at h9
    rw [e, h9] at hc
    cases hc
   have n2 : k ≠ b + 1 := fun e => by
    have h9 := h.r1
    unfold Bz at h9
    rw [e, h9] at hc
    cases hc
   rw [heap_setCell_other _ _ _ _ (by simpa using n2), heap_setCell_other _ _ _ _ (by simpa using n1)]
  have RF : Hid (∀ x ∈ l, Rd (((W.setCell ⟨b, 0, none⟩ (.slice va N vc)).setCell ⟨b + 1, 0, none⟩ (.bool true)).putObj D (.deferred none)) x.a x.ct.ws) := fun x hx => by
   refine cz_rd ?_ CD.out
   exact rd_set (rd_set (h.rd x hx) h.r0 (no_u64 (fun n e => by cases e)) 0 _) (h.r1.other (by omega) 0 _) (no_u64 (fun n e => by cases e)) 0 _
  have HF : Hid (l.map Sg.ct = formB (formP L)) := by
   show _ = _
   rw [← hS, ← h.bits]
   exact (formB_nf h.nf).symm
  have HNO := kide h.no
  have HRA := kide h.ra
  have HPZ : Hid (∀ x ∈ l, ∀ p, x.a = some p → p.block < (((W.setCell ⟨b, 0, none⟩ (.slice va N vc)).setCell ⟨b + 1, 0, none⟩ (.bool true)).putObj D (.deferred none)).heap.size) := fun x hx p hp => by have := h.pl x hx p hp; simpa using this
  have HLE : Hid (l.length ≤ 2000) := h.len
  clear h hdf
  gi_wp2
  refine ⟨by simp, .inl ⟨_, _, rfl, run_takeDeferred KD.out, ?_⟩⟩
  have y1 := (cz_bz Y1.out CD.out).cell 0
  have y2 := (cz_bz Y2.out CD.out).cell 0
  simp only [List.getElem?_toArray, List.getElem?_cons_zero] at y1 y2
  exact ⟨.tuple #[.slice va N vc, .bool true], by simp [results, Tryz.results62, go_sem, y1, y2], by rw [HB.out]; exact BF.out, .inl ⟨_, l, rfl, HF.out, HLE.out, by rw [HB.out]; exact OF.out, RF.out, HNO.out, HRA.out, HPZ.out⟩⟩
 case stop =>
  rintro D pre W hD hS ⟨h1, h2, h3, h4⟩ hdf
  have CD : Hid (Cz W (W.putObj D (.deferred none))) := Cz.put _ hdf rfl
  have Y1 := kide h3
  have Y2 := kide h4
  have KD := kide hdf
  have BF : Hid (Below b w (W.putObj D (.deferred none))) := h1.trans ⟨rfl, rfl, rfl, by simp, fun k hk => World.putObj_heap_other (fun e => by omega)⟩
  have HLT : Hid (2000 < (formB (formP L)).length) := by
   obtain ⟨r, hr⟩ := hS
   have h9 := formB_mono (formP r) _ (formP (pre.map Sg.ct)) (Nat.le_refl _)
   rw [← formP_app, hr] at h9
   exact Nat.lt_of_lt_of_le h2 h9
  clear h1 h2 h3 h4 hdf hS
  gi_wp2
  refine ⟨by simp, .inl ⟨_, _, rfl, run_takeDeferred KD.out, ?_⟩⟩
  have y1 := (cz_bz Y1.out CD.out).cell 0
  have y2 := (cz_bz Y2.out CD.out).cell 0
  simp only [List.getElem?_toArray, List.getElem?_cons_zero] at y1 y2
  exact ⟨.tuple #[.slice none 0 0, .bool false], by simp [results, Tryz.results62, go_sem, y1, y2], by rw [HB.out]; exact BF.out, .inr ⟨rfl, HLT.out⟩⟩

open Go.RowKit Go.Shelf
theorem formB_v64 : ∀ (n : Nat) (l : List Ib), l.length ≤ n → (∀ p ∈ l, in64 p.1) → ∀ s ∈ formB l, in64 s.v
 | 0, l, h, _, s, hs => by
  have : l = [] := List.eq_nil_of_length_eq_zero (by omega)
  subst this
  rw [formB_nil] at hs
  cases hs
 | n + 1, [], _, _, s, hs => by rw [formB_nil] at hs; cases hs
 | n + 1, p :: t, h, hp, s, hs => by
  have hlen : (p :: t).length = t.length + 1 := rfl
  rw [formB_cons] at hs
  split at hs
  ·rcases List.mem_cons.1 hs with rfl | hs
   ·unfold segC in64; simp
   ·exact formB_v64 n _ (by rw [List.length_drop]; omega) (fun q hq => hp q (List.mem_cons_of_mem _ (List.mem_of_mem_drop hq))) s hs
  ·rcases List.mem_cons.1 hs with rfl | hs
   ·exact hp p (by simp)
   ·exact formB_v64 n _ (by rw [List.length_drop]; omega) (fun q hq => hp q (List.mem_cons_of_mem _ (List.mem_of_mem_drop hq))) s hs

structure Fg (W : World) (B : Nat) (v : Value) (F : List Sc) (l : List Sg) : Prop where
 row : OS5 W B v l
 ct : l.map Sg.ct = F
 len : l.length ≤ 2000
 rd : ∀ x ∈ l, Rd W x.a x.ct.ws
 no : ∀ x ∈ l, x.a = none → x.c = 0
 ra : ∀ x ∈ l, ∀ p, x.a = some p → v.ownBlock ≠ some p.block
 pl : ∀ x ∈ l, ∀ p, x.a = some p → p.block < W.heap.size
theorem Fg.later {W W' : World} {B : Nat} {v : Value} {F : List Sc} {l : List Sg} (h : Fg W B v F l) (hb : Below W.heap.size W W') : Fg W' B v F l :=
 ⟨h.row.later hb, h.ct, h.len, fun x hx => (h.rd x hx).later hb, h.no, h.ra, fun x hx p hp => Nat.lt_of_lt_of_le (h.pl x hx p hp) hb.size⟩
theorem Fg.low {W : World} {B B' : Nat} {v : Value} {F : List Sc} {l : List Sg} (h : Fg W B v F l) (hB : B' ≤ B) : Fg W B' v F l := by
 refine ⟨?_, h.ct, h.len, h.rd, h.no, h.ra, h.pl⟩
 obtain ⟨h1, h2⟩ := h.row
 refine ⟨h1, ?_⟩
 rcases h2 with h2 | ⟨g, cap, cur, rfl, hg, hh, r⟩
 ·exact .inl h2
 ·exact .inr ⟨g, cap, cur, rfl, by omega, hh, r⟩
theorem Fg.set {W : World} {B G i : Nat} {v : Value} {F : List Sc} {l : List Sg} {cs : Array Value} (h : Fg W B v F l) (hb : Bz W G cs 45) (hno : ∀ (j : Nat) (n : Int), cs[j]? ≠ some (.int .u64 n)) (u : Value) : Fg (W.setCell ⟨G, i, none⟩ u) B v F l :=
 ⟨os5_set h.row hb (by decide) u, h.ct, h.len, fun x hx => rd_set (h.rd x hx) hb hno i u, h.no, h.ra, fun x hx p hp => by have := h.pl x hx p hp; simpa using this⟩
theorem Fg.fm {W : World} {B : Nat} {v : Value} {K : List Ib} {l : List Sg} (h : Fg W B v (formB K) l) (h1 : 1 ≤ K.length) (h2 : K.length ≤ 4096) (h3 : ∀ p ∈ K, okI p) : Fm W v (formB K) l := by
 obtain ⟨hP, hO⟩ := formB_P _ K (Nat.le_refl _) h2 h3
 have hne : l ≠ [] := fun e => by
  have h9 := h.ct
  rw [e] at h9
  rw [← h9] at hP
  simp [formP] at hP
  rw [hP] at h1
  simp at h1
 have hlen : 1 ≤ l.length := List.length_pos_iff.2 hne
 have hob : ∀ x ∈ l, okS x.ct ∧ 0 ≤ x.ct.lo ∧ x.ct.lo + x.ct.wd ≤ 4096 := fun x hx => hO x.ct (by rw [← h.ct]; exact List.mem_map_of_mem hx)
 refine ⟨?_, h.ct, fun x hx => ⟨(hob x hx).1, (hob x hx).2, h.rd x hx, h.no x hx, h.pl x hx⟩, hlen, h.len, fun x hx => ?_⟩
 ·rcases h.row.2 with ⟨e, h0⟩ | ⟨g, cap, cur, rfl, hg, hh, r⟩
  ·exact absurd (List.eq_nil_of_length_eq_zero h0) hne
  ·refine ⟨g, 0, cap, rfl, lt_of_block hh, fun i x hx => ?_⟩
   obtain ⟨e0, e1, e2, e3, e4⟩ := sgc_get hx
   have key : ∀ (j : Nat) (u : Value), (sgc l)[j]? = some u → W.cell? ⟨g, 0 + j, none⟩ = some u := fun j u hj => by
    have hc := World.ownsRow.cells h.row (g := g) rfl j u hj
    rw [Addr.add_lit] at hc
    exact hc
   exact ⟨key _ _ e0, key _ _ e1, key _ _ e2, key _ _ e3, key _ _ e4⟩
 ·-- numbers of variables
  have hx9 : x.ct ∈ formB K := by rw [← h.ct]; exact List.mem_map_of_mem hx
  exact (formB_v64 _ K (Nat.le_refl _) (fun p hp => (h3 p hp).1) x.ct hx9)

structure Ft (w : World) (b G n : Nat) (all : List (List Ib)) (W : World) : Prop where
 row : ∃ cur : Array Value, Bz W G cur 45 ∧ cur.size = n ∧ (∀ (j : Nat) (z : Int), cur[j]? ≠ some (.int .u64 z)) ∧ ∀ i, i < all.length → ∃ v l, cur[i]? = some v ∧ Fg W b v (formB (all.getD i [])) l
 bel : Below b w W
theorem Ft.later {w W W' : World} {b G n : Nat} {all : List (List Ib)} (h : Ft w b G n all W) (hb : Below W.heap.size W W') (hbW : b ≤ W.heap.size) : Ft w b G n all W' := by
 obtain ⟨cur, h1, h2, h3, h4⟩ := h.row
 exact ⟨⟨cur, h1.later hb, h2, h3, fun i hi => by
  obtain ⟨v, l, h5, h6⟩ := h4 i hi
  exact ⟨v, l, h5, h6.later hb⟩⟩, h.bel.trans (hb.mono hbW)⟩
theorem Ft.ah {w W : World} {b G n : Nat} {all : List (List Ib)} {wide : List Int} (h : Ft w b G n all W) (hA : AheadB wide all) : Ah W (some ⟨G, 0, none⟩) (all.map formB) := by
 obtain ⟨cur, h1, h2, h3, h4⟩ := h.row
 refine .inr ⟨G, 0, rfl, fun i F hF => ?_⟩
 rw [List.getElem?_map] at hF
 have hi : i < all.length := by
  cases e : all[i]? with
  | none => rw [e] at hF; cases hF
  | some x => exact (List.getElem?_eq_some_iff.1 e).1
 obtain ⟨v, l, h5, h6⟩ := h4 i hi
 have e : F = formB (all.getD i []) := by
  rw [List.getElem?_eq_getElem hi] at hF
  simp [List.getD, hi]
  simpa using hF.symm
 obtain ⟨k1, k2, k3, k4⟩ := hA.ok i hi
 subst e
 refine ⟨v, l, ?_, h6.fm (by omega) (by omega) k4⟩
 rw [Nat.zero_add, h1.cell i]
 exact h5
theorem Ft.put {w W : World} {b G n : Nat} {all : List (List Ib)} {K : List Ib} {v : Value} {l : List Sg} (h : Ft w b G n all W) (hn : all.length < n) (hv : Fg W b v (formB K) l) (hbG : b ≤ G) : Ft w b G n (all ++ [K]) (W.setCell ⟨G, all.length, none⟩ v) := by
 obtain ⟨cur, h1, h2, h3, h4⟩ := h.row
 have hvs : ∀ z : Int, v ≠ .int .u64 z := fun z e => by
  obtain ⟨a, c, e9⟩ := hv.row.form
  rw [e9] at e
  cases e
 refine ⟨⟨_, h1.set all.length v, by rw [Array.size_setIfInBounds]; exact h2, fun j z e => ?_, fun i hi => ?_⟩, h.bel.setCell (p := ⟨G, all.length, none⟩) hbG _⟩
 ·by_cases hj : all.length = j
  ·subst hj
   rw [Array.getElem?_setIfInBounds_self_of_lt (by omega)] at e
   exact hvs z (Option.some.inj e)
  ·rw [Array.getElem?_setIfInBounds_ne hj] at e
   exact h3 j z e
 ·by_cases hlt : i < all.length
  ·obtain ⟨v', l', h5, h6⟩ := h4 i hlt
   refine ⟨v', l', by rw [Array.getElem?_setIfInBounds_ne (by omega)]; exact h5, ?_⟩
   have e1 : (all ++ [K]).getD i [] = all.getD i [] := by simp [List.getD, List.getElem?_append_left hlt]
   rw [e1]
   exact h6.set h1 h3 v
  ·have e : i = all.length := by simp at hi; omega
   subst e
   have e1 : (all ++ [K]).getD all.length [] = K := by simp [List.getD]
   rw [e1]
   exact ⟨v, l, Array.getElem?_setIfInBounds_self_of_lt (by omega), hv.set h1 h3 v⟩
theorem Tryz.infoSs : (Tryz.prog.info? 45).map (fun i => (i.zero, i.size, i.bytes)) = some (some (.slice none 0 0), 1, 24) := by kernel_rfl
theorem make_sss (n : Nat) (hn : n ≤ 1048576) (kl kc : IntKind) (w : World) :
  (Instr.makeSlice 105 (.int kl (n : Int)) (.int kc (n : Int))).run Tryz.prog w = .ok (.slice (some ⟨w.heap.size, 0, none⟩) n n) (w.alloc (.cells (madeCells #[.slice none 0 0] n) 45)) := by
 obtain ⟨i0, hi, hz0, hz1, hz2⟩ := info_parts Tryz.infoSs
 have := run_make (P := Tryz.prog) w 105 45 i0 _ Tryz.underlying105 hi hz0 kl kc n n (by omega) (Int.le_refl _) (by rw [hz2]; omega) (by omega)
 rw [hz1, Nat.mul_one] at this
 simp only [Int.toNat_natCast] at this
 exact this
open Go.RowKit
theorem Ss.rds {w : World} {B n c : Nat} {a : Option Addr} {l : List Sg} (h : Ss w B (.slice a n c) l) (hl : l.length ≤ 1048576) (ho : ∀ x ∈ l, okF x.ct) : RdS w a l := by
 refine ⟨hl, ?_⟩
 rcases h.1.2 with ⟨e, h0⟩ | ⟨g, cap, cur, e, -⟩
 ·exact .inl (List.eq_nil_of_length_eq_zero h0)
 ·cases e
  refine .inr ⟨g, 0, rfl, fun i x hx => ?_⟩
  have hm := List.mem_of_getElem? hx
  obtain ⟨o1, o2, o3, o4, o5, o6⟩ := ho x hm
  obtain ⟨e0, e1, e2, e3, e4⟩ := sgc_get hx
  have key : ∀ (j : Nat) (u : Value), (sgc l)[j]? = some u → w.cell? ⟨g, 0 + j, none⟩ = some u := fun j u hj => by
   have hc := World.ownsRow.cells h.1 (g := g) rfl j u hj
   rw [Addr.add_lit] at hc
   exact hc
  rw [show (0 : Nat) + i * 5 = 0 + (i * 5) from rfl]
  exact ⟨⟨key _ _ e0, key _ _ e1, key _ _ e2, key _ _ e3, key _ _ e4⟩, (h.2 x hm).rd o5 o6, o1, o2, o3, o4⟩
theorem okF_map {l : List Sg} {X : List Sc} (e : l.map Sg.ct = X) (hX : ∀ y ∈ X, okF y) : ∀ x ∈ l, okF x.ct := fun x hx => hX _ (by rw [← e]; exact List.mem_map_of_mem hx)
theorem lenF_map {l : List Sg} {X : List Sc} {n : Nat} (e : l.map Sg.ct = X) (hn : X.length = n) : l.length = n := by rw [← hn, ← e]; simp

end Go.Proofs.YtnpjgoklpaigjaaGreatDoor
