/- The segments of a node of one kid, as an iterator. -/
import Derived.Test.YtckidgpopbpagaaGreatDoorZGAM
import Derived.Test.YtckidgpopbpagaaGreatDoorZGAB
import Derived.Test.YtckidgpopbpagaaGreatDoorZGAC
import Derived.Handy
namespace Go.Proofs.YtckidgpopbpagaaGreatDoor
set_option linter.unusedVariables false
set_option linter.unusedSimpArgs false
open Go.RowKit Go.Shelf

/-- Two iterators in turn. -/
theorem inTurn2 {L1 L2 : List Sc} {v1 v2 : Value} {w : World} {β : Nat} (h1 : Itr L1 w v1) (h2 : Itr L2 w v2) (hb : Bz w β #[v1, v2] 91) : Calls Tryz.prog 70 #[.slice (some ⟨β, 0, none⟩) 2 2] w (RetIt (L1 ++ L2) w) := by
  have h9 := inTurn_it (N := 2) (c := 2) (Ls := [L1, L2]) (vs := [v1, v2]) rfl (by omega) rfl hb.lt (fun i v hv => by
    match i, hv with
    | 0, hv => simp at hv; subst hv; exact hb.cell 0
    | 1, hv => simp at hv; subst hv; exact hb.cell 1
    | i + 2, hv => simp at hv) (fun i L v hL hv => by
    match i, hL, hv with
    | 0, hL, hv => simp at hL hv; subst hL hv; exact h1
    | 1, hL, hv => simp at hL hv; subst hL hv; exact h2
    | i + 2, hL, hv => simp at hv)
  simpa using h9
/-- One iterator several times over. -/
theorem inTurnR {L : List Sc} {v : Value} {w : World} {g A : Nat} (h : Itr L w v) (hA : 1 ≤ A) (hA2 : A ≤ 4096) (hc : ∀ i, i < A → w.cell? ⟨g, i, none⟩ = some v) : Calls Tryz.prog 70 #[.slice (some ⟨g, 0, none⟩) A A] w (RetIt (List.replicate A L).flatten w) :=
  inTurn_it (Ls := List.replicate A L) (vs := List.replicate A v) (by simp) (by omega) (by simp) (block_lt_of_cell (hc 0 (by omega))) (fun i u hu => by
    have hi := (List.getElem?_eq_some_iff.1 hu).1
    rw [List.length_replicate] at hi
    rw [List.getElem?_replicate, if_pos hi] at hu
    cases hu
    exact hc i hi) (fun i L' u hL hu => by
    rw [(List.mem_replicate.1 (List.mem_of_getElem? hL)).2, (List.mem_replicate.1 (List.mem_of_getElem? hu)).2]
    exact h)
theorem zero1_any (w : World) : Calls Tryz.prog 72 #[.int .i64 1] w fun e w' => ∃ g, e = .returned (.agg #[.int .i64 1, .slice (some ⟨g, 0, none⟩) 1 1]) ∧ Own w' g [0] ∧ Below w.heap.size w w' := by
  refine (zeroBits_any 1 w (by omega) (by omega)).mono ?_
  rintro e w' ⟨g, rfl, -, h1, h2⟩
  exact ⟨g, rfl, h1, h2⟩
theorem atz {w : World} {g : Nat} (h : Own w g [0]) : AtS w.heap.size w ⟨⟨-1, 0, 1, 1, [0]⟩, some ⟨g, 0, none⟩, 1⟩ :=
  ⟨⟨by simp, by simp, by simp, .inl ⟨rfl, rfl, rfl, (by decide : rightB 1 [0] = true)⟩⟩, by simp, h.rd (by simp) (by simp), fun e => (by cases e), fun q hq => by cases hq; exact h.lt⟩

set_option maxHeartbeats 4000000 in
set_option maxRecDepth 100000 in
theorem seg4 {da : Option Addr} {dc nd An Bn nw wc kb ko kc ab ao na ac fb fo fc xn Wd J : Nat} {vr  bw : Int} {wa : Option Addr} {F : List Sc} {xs : List Sg} {w : World} (HFM : Hid (Fm w (.slice (some ⟨fb, fo, none⟩) xn fc) F xs)) (HS : Hid (sumS F = (Wd : Int)))
    (HFW : Hid (∀ u, Below w.heap.size w u → Calls Tryz.prog 68 #[.slice (some ⟨fb, fo, none⟩) xn fc] u fun e w' => e = .returned (.int .i64 (Wd : Int)) ∧ Below u.heap.size u w'))
    (hfc : w.cell? ⟨ab, ao + J, none⟩ = some (.slice (some ⟨fb, fo, none⟩) xn fc)) (hkc : w.cell? ⟨kb, ko, none⟩ = some (.int .i64 (J : Int))) (qJ : (J : Int) < (na : Int)) (hK1 : 1 ≤ Wd) (hK2 : Wd ≤ 4096) (p1 : Bn ≤ An) (p3 : An < Wd) :
    Calls Tryz.prog 45 #[.slice da nd dc, .agg #[.int .i64 4, .int .i64 vr, .int .i64 (An : Int), .int .i64 (Bn : Int), .int .i64 bw, .slice wa nw wc, .slice (some ⟨kb, ko, none⟩) 1 kc], .slice (some ⟨ab, ao, none⟩) na ac] w (RetIt (betS Bn (An + 1) 0 F) w) := by
  have lab := block_lt_of_cell hfc
  have lkb := block_lt_of_cell hkc
  have qJ0 : (J : Int) ≥ 0 := by omega
  have q9 : IntKind.i64.wrap ((An : Int) + 1) = ((An + 1 : Nat) : Int) := by rw [IntKind.wrap_i64]; omega
  have BY : Hid (Below w.heap.size w (w.alloc (Obj.cells #[Value.int .i64 4, Value.int .i64 vr, Value.int .i64 (An : Int), Value.int .i64 (Bn : Int), Value.int .i64 bw, Value.slice wa nw wc, Value.slice (some ⟨kb, ko, none⟩) 1 kc] 62))) := (Below.refl _ _).alloc (Nat.le_refl _) _
  have XY : Hid (Bz (w.alloc (Obj.cells #[Value.int .i64 4, Value.int .i64 vr, Value.int .i64 (An : Int), Value.int .i64 (Bn : Int), Value.int .i64 bw, Value.slice wa nw wc, Value.slice (some ⟨kb, ko, none⟩) 1 kc] 62)) w.heap.size #[Value.int .i64 4, Value.int .i64 vr, Value.int .i64 (An : Int), Value.int .i64 (Bn : Int), Value.int .i64 bw, Value.slice wa nw wc, Value.slice (some ⟨kb, ko, none⟩) 1 kc] 62) := Bz.new w _ _
  go_enter Tryz.func45, Tryz.ntmps45
  go_wp2_with fail
  generalize w.alloc (Obj.cells #[Value.int .i64 4, Value.int .i64 vr, Value.int .i64 (An : Int), Value.int .i64 (Bn : Int), Value.int .i64 bw, Value.slice wa nw wc, Value.slice (some ⟨kb, ko, none⟩) 1 kc] 62) = Y at *
  refine Calls.mono (HFW.out Y BY.out) ?_
  rintro e wy ⟨rfl, hb2⟩
  have B2 := kide (BY.out.trans (hb2.mono BY.out.size))
  obtain ⟨b0, hb0⟩ : ∃ b0, w.heap.size = b0 := ⟨_, rfl⟩
  have HB0 := kide hb0
  rw [hb0] at XY
  simp only [hb0]
  have X2 := kide (XY.out.later hb2)
  have c0 := X2.out.cell 0
  have c2 := X2.out.cell 2
  have c3 := X2.out.cell 3
  simp at c0 c2 c3
  clear hb2 hb0 BY XY
  go_wp2_with fail
  refine Calls.mono (between_it (lo := Bn) (en := An + 1) (HFM.out.later B2.out) (by rw [HS.out]; omega) (by omega) (by omega)) ?_
  rintro e w4 ⟨v4, rfl, hi4, hb4⟩
  have I4 := kide hi4
  have B4 := kide (B2.out.trans (hb4.mono B2.out.size))
  clear hi4 hb4
  go_wp2_with fail
  exact bodyPost_ret (v := v4) (by simp [results, Tryz.results45, go_sem]) rfl ⟨v4, rfl, I4.out, B4.out⟩

set_option maxHeartbeats 4000000 in
set_option maxRecDepth 100000 in
theorem seg5 {da : Option Addr} {dc nd An  nw wc kb ko kc ab ao na ac fb fo fc xn Wd J : Nat} {vr Bb bw : Int} {wa : Option Addr} {F : List Sc} {xs : List Sg} {w : World} (HFM : Hid (Fm w (.slice (some ⟨fb, fo, none⟩) xn fc) F xs)) (HS : Hid (sumS F = (Wd : Int)))
    (HFW : Hid (∀ u, Below w.heap.size w u → Calls Tryz.prog 68 #[.slice (some ⟨fb, fo, none⟩) xn fc] u fun e w' => e = .returned (.int .i64 (Wd : Int)) ∧ Below u.heap.size u w'))
    (hfc : w.cell? ⟨ab, ao + J, none⟩ = some (.slice (some ⟨fb, fo, none⟩) xn fc)) (hkc : w.cell? ⟨kb, ko, none⟩ = some (.int .i64 (J : Int))) (qJ : (J : Int) < (na : Int)) (hK1 : 1 ≤ Wd) (hK2 : Wd ≤ 4096) (ha : An ≤ 4096) :
    Calls Tryz.prog 45 #[.slice da nd dc, .agg #[.int .i64 5, .int .i64 vr, .int .i64 (An : Int), .int .i64 Bb, .int .i64 bw, .slice wa nw wc, .slice (some ⟨kb, ko, none⟩) 1 kc], .slice (some ⟨ab, ao, none⟩) na ac] w (RetIt (F ++ List.replicate An ⟨-1, 0, 1, 1, [0]⟩) w) := by
  have lab := block_lt_of_cell hfc
  have lkb := block_lt_of_cell hkc
  have qJ0 : (J : Int) ≥ 0 := by omega
  have BY : Hid (Below w.heap.size w (w.alloc (Obj.cells #[Value.int .i64 5, Value.int .i64 vr, Value.int .i64 (An : Int), Value.int .i64 Bb, Value.int .i64 bw, Value.slice wa nw wc, Value.slice (some ⟨kb, ko, none⟩) 1 kc] 62))) := (Below.refl _ _).alloc (Nat.le_refl _) _
  have XY : Hid (Bz (w.alloc (Obj.cells #[Value.int .i64 5, Value.int .i64 vr, Value.int .i64 (An : Int), Value.int .i64 Bb, Value.int .i64 bw, Value.slice wa nw wc, Value.slice (some ⟨kb, ko, none⟩) 1 kc] 62)) w.heap.size #[Value.int .i64 5, Value.int .i64 vr, Value.int .i64 (An : Int), Value.int .i64 Bb, Value.int .i64 bw, Value.slice wa nw wc, Value.slice (some ⟨kb, ko, none⟩) 1 kc] 62) := Bz.new w _ _
  go_enter Tryz.func45, Tryz.ntmps45
  go_wp2_with fail
  generalize w.alloc (Obj.cells #[Value.int .i64 5, Value.int .i64 vr, Value.int .i64 (An : Int), Value.int .i64 Bb, Value.int .i64 bw, Value.slice wa nw wc, Value.slice (some ⟨kb, ko, none⟩) 1 kc] 62) = Y at *
  refine Calls.mono (HFW.out Y BY.out) ?_
  rintro e wy ⟨rfl, hb2⟩
  have B2 := kide (BY.out.trans (hb2.mono BY.out.size))
  obtain ⟨b0, hb0⟩ : ∃ b0, w.heap.size = b0 := ⟨_, rfl⟩
  have HB0 := kide hb0
  rw [hb0] at XY
  simp only [hb0]
  have X2 := kide (XY.out.later hb2)
  have c0 := X2.out.cell 0
  have c2 := X2.out.cell 2
  have c3 := X2.out.cell 3
  simp at c0 c2 c3
  clear hb2 hb0 BY XY
  go_wp2_with fail
  refine wp_region_x (SA := fun _ => False) (SB := fun uu => Below wy.heap.size wy uu) (k := 999) (by kernel_rfl) ?_
  have hu0 : Hid (Below wy.heap.size wy wy.drew) := (Below.refl _ _).drew
  generalize wy.drew = u0 at *
  try go_simp
  refine wpAnyX_both (T := fun uu => Below wy.heap.size wy uu) (i := 0) (v := Value.slice (some ⟨fb, fo, none⟩) xn fc) rfl (by kernel_rfl) (by kernel_rfl) (by kernel_rfl) (fun _ _ _ h => by first | exact h | exact h.elim) (by decide) (fun _ h => h.elim) (fun _ h => h) (Sx.behind (by kernel_rfl) hu0.out) (Or.inl ⟨by rfl, fun uu hu => by go_simp⟩) ?_
  try go_simp
  refine wpAnyX_both (T := fun uu => Below wy.heap.size wy uu) (i := 2) (v := Value.pointer (some ⟨b0, 2, none⟩)) rfl (by kernel_rfl) (by kernel_rfl) (by kernel_rfl) (fun _ _ _ h => by first | exact h | exact h.elim) (by decide) (fun _ h => h.elim) (fun _ h => h) (Sx.behind (by kernel_rfl) hu0.out) (Or.inl ⟨by rfl, fun uu hu => by go_simp⟩) ?_
  try go_simp
  refine wpAnyX_both (T := fun uu => Below wy.heap.size wy uu) (i := 3) (v := Value.int .i64 (An : Int)) rfl (by kernel_rfl) (by kernel_rfl) (by kernel_rfl) (fun _ _ _ h => by first | exact h | exact h.elim) (by decide) (fun _ h => h.elim) (fun _ h => h) (Sx.behind (by kernel_rfl) hu0.out) (Or.inl ⟨by rfl, fun uu hu => by have e0 := (kcell hu b0 2 X2.out.lt).trans c2; go_simp⟩) ?_
  try go_simp
  refine wpAnyX_ready (rs := [1]) (by kernel_rfl) (by simp) (AllX.cons rfl (fun K hK => ?_) AllX.nil)
  go_simp
  refine Calls.mono (values_it (HFM.out.later (B2.out.trans (hu0.out.mono B2.out.size)))) ?_
  rintro e u1 ⟨v1, rfl, hi1, hb1⟩
  have hu1 : Hid (Below wy.heap.size wy u1) := hu0.out.trans (hb1.mono hu0.out.size)
  obtain ⟨g1, lb1, rfl, -⟩ := id hi1.is
  have I1_1 : Hid (Itr (F) u1 (Value.func (Fn.func g1) #[] lb1)) := hi1
  clear hi1
  refine hK _ _ (Sx.behind (by kernel_rfl) hu1.out) ?_
  clear hK K hb1
  try go_simp
  refine wpAnyX_ready (rs := [4]) (by kernel_rfl) (by simp) (AllX.cons rfl (fun K hK => ?_) AllX.nil)
  go_simp
  refine Calls.mono (zero1_any u1) ?_
  rintro e u2 ⟨gz, rfl, hoz, hbz⟩
  have hu2 : Hid (Below wy.heap.size wy u2) := hu1.out.trans (hbz.mono hu1.out.size)
  have I1_2 : Hid (Itr (F) u2 (Value.func (Fn.func g1) #[] lb1)) := I1_1.out.later hbz
  have OZ_2 : Hid (Own u2 gz [0]) := hoz
  clear hoz
  refine hK _ _ (Sx.behind (by kernel_rfl) hu2.out) ?_
  clear hK K hbz
  try go_simp
  refine wpAnyX_ready (rs := [5]) (by kernel_rfl) (by simp) (AllX.cons rfl (fun K hK => ?_) AllX.nil)
  go_simp
  refine Calls.mono (constSeg_any _ _ _ _ u2) ?_
  rintro e u3 ⟨rfl, hbc⟩
  have hu3 : Hid (Below wy.heap.size wy u3) := hu2.out.trans (hbc.mono hu2.out.size)
  have I1_3 : Hid (Itr (F) u3 (Value.func (Fn.func g1) #[] lb1)) := I1_2.out.later hbc
  have OZ_3 : Hid (Own u3 gz [0]) := Own.later OZ_2.out hbc (Own.lt OZ_2.out)
  refine hK _ _ (Sx.behind (by kernel_rfl) hu3.out) ?_
  clear hK K hbc
  try go_simp
  refine wpAnyX_ready (rs := [6]) (by kernel_rfl) (by simp) (AllX.cons rfl (fun K hK => ?_) AllX.nil)
  go_simp
  refine Calls.mono (again_it (m := An) (x := ⟨⟨-1, 0, 1, 1, [0]⟩, some ⟨gz, 0, none⟩, 1⟩) (by omega) (atz OZ_3.out)) ?_
  rintro e u4 ⟨v2, rfl, hi2, hb2⟩
  have hu4 : Hid (Below wy.heap.size wy u4) := hu3.out.trans (hb2.mono hu3.out.size)
  have I1_4 : Hid (Itr (F) u4 (Value.func (Fn.func g1) #[] lb1)) := I1_3.out.later hb2
  have OZ_4 : Hid (Own u4 gz [0]) := Own.later OZ_3.out hb2 (Own.lt OZ_3.out)
  obtain ⟨g2, lb2, rfl, -⟩ := id hi2.is
  have I2_4 : Hid (Itr (List.replicate An ⟨-1, 0, 1, 1, [0]⟩) u4 (Value.func (Fn.func g2) #[] lb2)) := hi2
  clear hi2
  refine hK _ _ (Sx.behind (by kernel_rfl) hu4.out) ?_
  clear hK K hb2
  try go_simp
  refine wpAnyX_ready (rs := [7]) (by kernel_rfl) (by simp) (AllX.cons rfl (fun K hK => ?_) AllX.nil)
  go_simp
  refine hK _ _ (Sx.behind (by kernel_rfl) (hu4.out.alloc hu4.out.size _)) ?_
  clear hK K
  have hu5 : Hid (Below wy.heap.size wy (u4.alloc (Obj.cells #[Value.func (Fn.func g1) #[] lb1, Value.func (Fn.func g2) #[] lb2] 91))) := hu4.out.alloc hu4.out.size _
  have bbb_5 : Hid (Bz (u4.alloc (Obj.cells #[Value.func (Fn.func g1) #[] lb1, Value.func (Fn.func g2) #[] lb2] 91)) u4.heap.size #[Value.func (Fn.func g1) #[] lb1, Value.func (Fn.func g2) #[] lb2] 91) := Bz.new _ _ _
  have w5 : Below u4.heap.size u4 (u4.alloc (Obj.cells #[Value.func (Fn.func g1) #[] lb1, Value.func (Fn.func g2) #[] lb2] 91)) := (Below.refl _ _).alloc (Nat.le_refl _) _
  have I1_5 : Hid (Itr (F) (u4.alloc (Obj.cells #[Value.func (Fn.func g1) #[] lb1, Value.func (Fn.func g2) #[] lb2] 91)) (Value.func (Fn.func g1) #[] lb1)) := I1_4.out.later w5
  have OZ_5 : Hid (Own (u4.alloc (Obj.cells #[Value.func (Fn.func g1) #[] lb1, Value.func (Fn.func g2) #[] lb2] 91)) gz [0]) := Own.later OZ_4.out w5 (Own.lt OZ_4.out)
  have I2_5 : Hid (Itr (List.replicate An ⟨-1, 0, 1, 1, [0]⟩) (u4.alloc (Obj.cells #[Value.func (Fn.func g1) #[] lb1, Value.func (Fn.func g2) #[] lb2] 91)) (Value.func (Fn.func g2) #[] lb2)) := I2_4.out.later w5
  have lbb : wy.heap.size ≤ u4.heap.size := hu4.out.size
  clear w5
  generalize hqbb : u4.heap.size = bb at *
  generalize u4.alloc (Obj.cells #[Value.func (Fn.func g1) #[] lb1, Value.func (Fn.func g2) #[] lb2] 91) = u5 at *
  clear hqbb
  try go_simp
  refine wpAnyX_ready (rs := [8]) (by kernel_rfl) (by simp) (AllX.cons rfl (fun K hK => ?_) AllX.nil)
  go_simp
  refine Calls.mono (inTurn2 I1_5.out I2_5.out bbb_5.out) ?_
  rintro e u6 ⟨v4, rfl, hi4, hb4⟩
  have hu6 : Hid (Below wy.heap.size wy u6) := hu5.out.trans (hb4.mono hu5.out.size)
  have bbb_6 : Hid (Bz u6 bb #[Value.func (Fn.func g1) #[] lb1, Value.func (Fn.func g2) #[] lb2] 91) := Bz.later bbb_5.out hb4
  have I1_6 : Hid (Itr (F) u6 (Value.func (Fn.func g1) #[] lb1)) := I1_5.out.later hb4
  have OZ_6 : Hid (Own u6 gz [0]) := Own.later OZ_5.out hb4 (Own.lt OZ_5.out)
  have I2_6 : Hid (Itr (List.replicate An ⟨-1, 0, 1, 1, [0]⟩) u6 (Value.func (Fn.func g2) #[] lb2)) := I2_5.out.later hb4
  obtain ⟨g4, lb4, rfl, -⟩ := id hi4.is
  have I4_6 := kide hi4
  clear hi4
  refine hK _ _ (Sx.behind (by kernel_rfl) hu6.out) ?_
  clear hK K hb4
  try go_simp
  refine wpAnyX_both (T := fun uu => Below wy.heap.size wy uu) (i := 9) (v := Value.func (Fn.func g4) #[] lb4) rfl (by kernel_rfl) (by kernel_rfl) (by kernel_rfl) (fun _ _ _ h => by first | exact h | exact h.elim) (by decide) (fun _ h => h.elim) (fun _ h => h) (Sx.behind (by kernel_rfl) hu6.out) (Or.inl ⟨by rfl, fun uu hu => by go_simp⟩) ?_
  try go_simp
  refine wpAnyX_done (by kernel_rfl) ?_ _
  have B4 := kide (B2.out.trans (hu6.out.mono B2.out.size))
  go_wp2_with fail
  exact bodyPost_ret (v := Value.func (Fn.func g4) #[] lb4) (by simp [results, Tryz.results45, go_sem]) rfl ⟨_, rfl, I4_6.out, B4.out⟩

set_option maxHeartbeats 4000000 in
set_option maxRecDepth 100000 in
theorem seg6 {da : Option Addr} {dc nd An  nw wc kb ko kc ab ao na ac fb fo fc xn Wd J : Nat} {vr Bb bw : Int} {wa : Option Addr} {F : List Sc} {xs : List Sg} {w : World} (HFM : Hid (Fm w (.slice (some ⟨fb, fo, none⟩) xn fc) F xs)) (HS : Hid (sumS F = (Wd : Int)))
    (HFW : Hid (∀ u, Below w.heap.size w u → Calls Tryz.prog 68 #[.slice (some ⟨fb, fo, none⟩) xn fc] u fun e w' => e = .returned (.int .i64 (Wd : Int)) ∧ Below u.heap.size u w'))
    (hfc : w.cell? ⟨ab, ao + J, none⟩ = some (.slice (some ⟨fb, fo, none⟩) xn fc)) (hkc : w.cell? ⟨kb, ko, none⟩ = some (.int .i64 (J : Int))) (qJ : (J : Int) < (na : Int)) (hK1 : 1 ≤ Wd) (hK2 : Wd ≤ 4096) (ha : An ≤ 4096) :
    Calls Tryz.prog 45 #[.slice da nd dc, .agg #[.int .i64 6, .int .i64 vr, .int .i64 (An : Int), .int .i64 Bb, .int .i64 bw, .slice wa nw wc, .slice (some ⟨kb, ko, none⟩) 1 kc], .slice (some ⟨ab, ao, none⟩) na ac] w (RetIt (F ++ List.replicate An (cutS (lastS F) ((lastS F).wd.toNat - 1) 1)) w) := by
  have lab := block_lt_of_cell hfc
  have lkb := block_lt_of_cell hkc
  have qJ0 : (J : Int) ≥ 0 := by omega
  have BY : Hid (Below w.heap.size w (w.alloc (Obj.cells #[Value.int .i64 6, Value.int .i64 vr, Value.int .i64 (An : Int), Value.int .i64 Bb, Value.int .i64 bw, Value.slice wa nw wc, Value.slice (some ⟨kb, ko, none⟩) 1 kc] 62))) := (Below.refl _ _).alloc (Nat.le_refl _) _
  have XY : Hid (Bz (w.alloc (Obj.cells #[Value.int .i64 6, Value.int .i64 vr, Value.int .i64 (An : Int), Value.int .i64 Bb, Value.int .i64 bw, Value.slice wa nw wc, Value.slice (some ⟨kb, ko, none⟩) 1 kc] 62)) w.heap.size #[Value.int .i64 6, Value.int .i64 vr, Value.int .i64 (An : Int), Value.int .i64 Bb, Value.int .i64 bw, Value.slice wa nw wc, Value.slice (some ⟨kb, ko, none⟩) 1 kc] 62) := Bz.new w _ _
  go_enter Tryz.func45, Tryz.ntmps45
  go_wp2_with fail
  generalize w.alloc (Obj.cells #[Value.int .i64 6, Value.int .i64 vr, Value.int .i64 (An : Int), Value.int .i64 Bb, Value.int .i64 bw, Value.slice wa nw wc, Value.slice (some ⟨kb, ko, none⟩) 1 kc] 62) = Y at *
  refine Calls.mono (HFW.out Y BY.out) ?_
  rintro e wy ⟨rfl, hb2⟩
  have B2 := kide (BY.out.trans (hb2.mono BY.out.size))
  obtain ⟨b0, hb0⟩ : ∃ b0, w.heap.size = b0 := ⟨_, rfl⟩
  have HB0 := kide hb0
  rw [hb0] at XY
  simp only [hb0]
  have X2 := kide (XY.out.later hb2)
  have c0 := X2.out.cell 0
  have c2 := X2.out.cell 2
  have c3 := X2.out.cell 3
  simp at c0 c2 c3
  clear hb2 hb0 BY XY
  go_wp2_with fail
  refine wp_region_x (SA := fun _ => False) (SB := fun uu => Below wy.heap.size wy uu) (k := 999) (by kernel_rfl) ?_
  have hu0 : Hid (Below wy.heap.size wy wy.drew) := (Below.refl _ _).drew
  generalize wy.drew = u0 at *
  try go_simp
  refine wpAnyX_both (T := fun uu => Below wy.heap.size wy uu) (i := 0) (v := Value.slice (some ⟨fb, fo, none⟩) xn fc) rfl (by kernel_rfl) (by kernel_rfl) (by kernel_rfl) (fun _ _ _ h => by first | exact h | exact h.elim) (by decide) (fun _ h => h.elim) (fun _ h => h) (Sx.behind (by kernel_rfl) hu0.out) (Or.inl ⟨by rfl, fun uu hu => by go_simp⟩) ?_
  try go_simp
  refine wpAnyX_both (T := fun uu => Below wy.heap.size wy uu) (i := 2) (v := Value.pointer (some ⟨b0, 2, none⟩)) rfl (by kernel_rfl) (by kernel_rfl) (by kernel_rfl) (fun _ _ _ h => by first | exact h | exact h.elim) (by decide) (fun _ h => h.elim) (fun _ h => h) (Sx.behind (by kernel_rfl) hu0.out) (Or.inl ⟨by rfl, fun uu hu => by go_simp⟩) ?_
  try go_simp
  refine wpAnyX_both (T := fun uu => Below wy.heap.size wy uu) (i := 3) (v := Value.int .i64 (An : Int)) rfl (by kernel_rfl) (by kernel_rfl) (by kernel_rfl) (fun _ _ _ h => by first | exact h | exact h.elim) (by decide) (fun _ h => h.elim) (fun _ h => h) (Sx.behind (by kernel_rfl) hu0.out) (Or.inl ⟨by rfl, fun uu hu => by have e0 := (kcell hu b0 2 X2.out.lt).trans c2; go_simp⟩) ?_
  try go_simp
  refine wpAnyX_both (T := fun uu => Below wy.heap.size wy uu) (i := 4) (v := Value.slice (some ⟨fb, fo, none⟩) xn fc) rfl (by kernel_rfl) (by kernel_rfl) (by kernel_rfl) (fun _ _ _ h => by first | exact h | exact h.elim) (by decide) (fun _ h => h.elim) (fun _ h => h) (Sx.behind (by kernel_rfl) hu0.out) (Or.inl ⟨by rfl, fun uu hu => by go_simp⟩) ?_
  try go_simp
  refine wpAnyX_ready (rs := [1]) (by kernel_rfl) (by simp) (AllX.cons rfl (fun K hK => ?_) AllX.nil)
  go_simp
  refine Calls.mono (values_it (HFM.out.later (B2.out.trans (hu0.out.mono B2.out.size)))) ?_
  rintro e u1 ⟨v1, rfl, hi1, hb1⟩
  have hu1 : Hid (Below wy.heap.size wy u1) := hu0.out.trans (hb1.mono hu0.out.size)
  obtain ⟨g1, lb1, rfl, -⟩ := id hi1.is
  have I1_1 : Hid (Itr (F) u1 (Value.func (Fn.func g1) #[] lb1)) := hi1
  clear hi1
  refine hK _ _ (Sx.behind (by kernel_rfl) hu1.out) ?_
  clear hK K hb1
  try go_simp
  refine wpAnyX_ready (rs := [5]) (by kernel_rfl) (by simp) (AllX.cons rfl (fun K hK => ?_) AllX.nil)
  go_simp
  refine Calls.mono (highest_any (HFM.out.later (B2.out.trans (hu1.out.mono B2.out.size)))) ?_
  rintro e u2 ⟨y, rfl, hyc, hya, -, hbh⟩
  have hu2 : Hid (Below wy.heap.size wy u2) := hu1.out.trans (hbh.mono hu1.out.size)
  have I1_2 : Hid (Itr (F) u2 (Value.func (Fn.func g1) #[] lb1)) := I1_1.out.later hbh
  have YC := kide hyc
  have AY_2 : Hid (AtS u2.heap.size u2 y) := hya
  clear hyc hya
  refine hK _ _ (Sx.behind (by kernel_rfl) hu2.out) ?_
  clear hK K hbh
  try go_simp
  refine wpAnyX_ready (rs := [6]) (by kernel_rfl) (by simp) (AllX.cons rfl (fun K hK => ?_) AllX.nil)
  go_simp
  refine Calls.mono (again_it (m := An) (x := y) (by omega) AY_2.out) ?_
  rintro e u3 ⟨v2, rfl, hi2, hb2⟩
  have hu3 : Hid (Below wy.heap.size wy u3) := hu2.out.trans (hb2.mono hu2.out.size)
  have I1_3 : Hid (Itr (F) u3 (Value.func (Fn.func g1) #[] lb1)) := I1_2.out.later hb2
  have AY_3 : Hid (AtS u3.heap.size u3 y) := AtS.later AY_2.out hb2 (Below.size hb2)
  obtain ⟨g2, lb2, rfl, -⟩ := id hi2.is
  have I2_3 : Hid (Itr (List.replicate An y.ct) u3 (Value.func (Fn.func g2) #[] lb2)) := hi2
  clear hi2
  refine hK _ _ (Sx.behind (by kernel_rfl) hu3.out) ?_
  clear hK K hb2
  try go_simp
  refine wpAnyX_ready (rs := [7]) (by kernel_rfl) (by simp) (AllX.cons rfl (fun K hK => ?_) AllX.nil)
  go_simp
  refine hK _ _ (Sx.behind (by kernel_rfl) (hu3.out.alloc hu3.out.size _)) ?_
  clear hK K
  have hu4 : Hid (Below wy.heap.size wy (u3.alloc (Obj.cells #[Value.func (Fn.func g1) #[] lb1, Value.func (Fn.func g2) #[] lb2] 91))) := hu3.out.alloc hu3.out.size _
  have bbb_4 : Hid (Bz (u3.alloc (Obj.cells #[Value.func (Fn.func g1) #[] lb1, Value.func (Fn.func g2) #[] lb2] 91)) u3.heap.size #[Value.func (Fn.func g1) #[] lb1, Value.func (Fn.func g2) #[] lb2] 91) := Bz.new _ _ _
  have w4 : Below u3.heap.size u3 (u3.alloc (Obj.cells #[Value.func (Fn.func g1) #[] lb1, Value.func (Fn.func g2) #[] lb2] 91)) := (Below.refl _ _).alloc (Nat.le_refl _) _
  have I1_4 : Hid (Itr (F) (u3.alloc (Obj.cells #[Value.func (Fn.func g1) #[] lb1, Value.func (Fn.func g2) #[] lb2] 91)) (Value.func (Fn.func g1) #[] lb1)) := I1_3.out.later w4
  have AY_4 : Hid (AtS (u3.alloc (Obj.cells #[Value.func (Fn.func g1) #[] lb1, Value.func (Fn.func g2) #[] lb2] 91)).heap.size (u3.alloc (Obj.cells #[Value.func (Fn.func g1) #[] lb1, Value.func (Fn.func g2) #[] lb2] 91)) y) := AtS.later AY_3.out w4 (Below.size w4)
  have I2_4 : Hid (Itr (List.replicate An y.ct) (u3.alloc (Obj.cells #[Value.func (Fn.func g1) #[] lb1, Value.func (Fn.func g2) #[] lb2] 91)) (Value.func (Fn.func g2) #[] lb2)) := I2_3.out.later w4
  have lbb : wy.heap.size ≤ u3.heap.size := hu3.out.size
  clear w4
  generalize hqbb : u3.heap.size = bb at *
  generalize u3.alloc (Obj.cells #[Value.func (Fn.func g1) #[] lb1, Value.func (Fn.func g2) #[] lb2] 91) = u4 at *
  clear hqbb
  try go_simp
  refine wpAnyX_ready (rs := [8]) (by kernel_rfl) (by simp) (AllX.cons rfl (fun K hK => ?_) AllX.nil)
  go_simp
  refine Calls.mono (inTurn2 I1_4.out I2_4.out bbb_4.out) ?_
  rintro e u5 ⟨v4, rfl, hi4, hb4⟩
  have hu5 : Hid (Below wy.heap.size wy u5) := hu4.out.trans (hb4.mono hu4.out.size)
  have bbb_5 : Hid (Bz u5 bb #[Value.func (Fn.func g1) #[] lb1, Value.func (Fn.func g2) #[] lb2] 91) := Bz.later bbb_4.out hb4
  have I1_5 : Hid (Itr (F) u5 (Value.func (Fn.func g1) #[] lb1)) := I1_4.out.later hb4
  have AY_5 : Hid (AtS u5.heap.size u5 y) := AtS.later AY_4.out hb4 (Below.size hb4)
  have I2_5 : Hid (Itr (List.replicate An y.ct) u5 (Value.func (Fn.func g2) #[] lb2)) := I2_4.out.later hb4
  obtain ⟨g4, lb4, rfl, -⟩ := id hi4.is
  have I4_5 := kide hi4
  clear hi4
  refine hK _ _ (Sx.behind (by kernel_rfl) hu5.out) ?_
  clear hK K hb4
  try go_simp
  refine wpAnyX_both (T := fun uu => Below wy.heap.size wy uu) (i := 9) (v := Value.func (Fn.func g4) #[] lb4) rfl (by kernel_rfl) (by kernel_rfl) (by kernel_rfl) (fun _ _ _ h => by first | exact h | exact h.elim) (by decide) (fun _ h => h.elim) (fun _ h => h) (Sx.behind (by kernel_rfl) hu5.out) (Or.inl ⟨by rfl, fun uu hu => by go_simp⟩) ?_
  try go_simp
  refine wpAnyX_done (by kernel_rfl) ?_ _
  have B4 := kide (B2.out.trans (hu5.out.mono B2.out.size))
  go_wp2_with fail
  exact bodyPost_ret (v := Value.func (Fn.func g4) #[] lb4) (by simp [results, Tryz.results45, go_sem]) rfl ⟨_, rfl, (by rw [← YC.out]; exact I4_5.out), B4.out⟩

set_option maxHeartbeats 4000000 in
set_option maxRecDepth 100000 in
theorem seg7 {da : Option Addr} {dc nd An  nw wc kb ko kc ab ao na ac fb fo fc xn Wd J : Nat} {vr Bb bw : Int} {wa : Option Addr} {F : List Sc} {xs : List Sg} {w : World} (HFM : Hid (Fm w (.slice (some ⟨fb, fo, none⟩) xn fc) F xs)) (HS : Hid (sumS F = (Wd : Int)))
    (HFW : Hid (∀ u, Below w.heap.size w u → Calls Tryz.prog 68 #[.slice (some ⟨fb, fo, none⟩) xn fc] u fun e w' => e = .returned (.int .i64 (Wd : Int)) ∧ Below u.heap.size u w'))
    (hfc : w.cell? ⟨ab, ao + J, none⟩ = some (.slice (some ⟨fb, fo, none⟩) xn fc)) (hkc : w.cell? ⟨kb, ko, none⟩ = some (.int .i64 (J : Int))) (qJ : (J : Int) < (na : Int)) (hK1 : 1 ≤ Wd) (hK2 : Wd ≤ 4096) (ha : An ≤ 4096) :
    Calls Tryz.prog 45 #[.slice da nd dc, .agg #[.int .i64 7, .int .i64 vr, .int .i64 (An : Int), .int .i64 Bb, .int .i64 bw, .slice wa nw wc, .slice (some ⟨kb, ko, none⟩) 1 kc], .slice (some ⟨ab, ao, none⟩) na ac] w (RetIt (betS (Wd - An % Wd) Wd 0 F ++ betS 0 (Wd - An % Wd) 0 F) w) := by
  have lab := block_lt_of_cell hfc
  have lkb := block_lt_of_cell hkc
  have qJ0 : (J : Int) ≥ 0 := by omega
  obtain ⟨md, hmdE⟩ : ∃ md, An % Wd = md := ⟨_, rfl⟩
  have hmd := Nat.mod_lt An (show 0 < Wd by omega)
  have q8 : (An : Int) % (Wd : Int) = ((An % Wd : Nat) : Int) := by omega
  rw [hmdE] at q8 hmd ⊢
  clear hmdE
  have BY : Hid (Below w.heap.size w (w.alloc (Obj.cells #[Value.int .i64 7, Value.int .i64 vr, Value.int .i64 (An : Int), Value.int .i64 Bb, Value.int .i64 bw, Value.slice wa nw wc, Value.slice (some ⟨kb, ko, none⟩) 1 kc] 62))) := (Below.refl _ _).alloc (Nat.le_refl _) _
  have XY : Hid (Bz (w.alloc (Obj.cells #[Value.int .i64 7, Value.int .i64 vr, Value.int .i64 (An : Int), Value.int .i64 Bb, Value.int .i64 bw, Value.slice wa nw wc, Value.slice (some ⟨kb, ko, none⟩) 1 kc] 62)) w.heap.size #[Value.int .i64 7, Value.int .i64 vr, Value.int .i64 (An : Int), Value.int .i64 Bb, Value.int .i64 bw, Value.slice wa nw wc, Value.slice (some ⟨kb, ko, none⟩) 1 kc] 62) := Bz.new w _ _
  go_enter Tryz.func45, Tryz.ntmps45
  go_wp2_with fail
  generalize w.alloc (Obj.cells #[Value.int .i64 7, Value.int .i64 vr, Value.int .i64 (An : Int), Value.int .i64 Bb, Value.int .i64 bw, Value.slice wa nw wc, Value.slice (some ⟨kb, ko, none⟩) 1 kc] 62) = Y at *
  refine Calls.mono (HFW.out Y BY.out) ?_
  rintro e wy ⟨rfl, hb2⟩
  have B2 := kide (BY.out.trans (hb2.mono BY.out.size))
  obtain ⟨b0, hb0⟩ : ∃ b0, w.heap.size = b0 := ⟨_, rfl⟩
  have HB0 := kide hb0
  rw [hb0] at XY
  simp only [hb0]
  have X2 := kide (XY.out.later hb2)
  have c0 := X2.out.cell 0
  have c2 := X2.out.cell 2
  have c3 := X2.out.cell 3
  simp at c0 c2 c3
  clear hb2 hb0 BY XY
  go_wp2_with fail
  refine Calls.mono (turned_it (k := md) (HFM.out.later B2.out) HS.out hK2 (by omega)) ?_
  rintro e w4 ⟨v4, rfl, hi4, hb4⟩
  have I4 := kide hi4
  have B4 := kide (B2.out.trans (hb4.mono B2.out.size))
  clear hi4 hb4
  go_wp2_with fail
  exact bodyPost_ret (v := v4) (by simp [results, Tryz.results45, go_sem]) rfl ⟨v4, rfl, I4.out, B4.out⟩

set_option maxHeartbeats 4000000 in
set_option maxRecDepth 100000 in
theorem seg8 {da : Option Addr} {dc nd An  nw wc kb ko kc ab ao na ac fb fo fc xn Wd J : Nat} {vr Bb bw : Int} {wa : Option Addr} {F : List Sc} {xs : List Sg} {w : World} (HFM : Hid (Fm w (.slice (some ⟨fb, fo, none⟩) xn fc) F xs)) (HS : Hid (sumS F = (Wd : Int)))
    (HFW : Hid (∀ u, Below w.heap.size w u → Calls Tryz.prog 68 #[.slice (some ⟨fb, fo, none⟩) xn fc] u fun e w' => e = .returned (.int .i64 (Wd : Int)) ∧ Below u.heap.size u w'))
    (hfc : w.cell? ⟨ab, ao + J, none⟩ = some (.slice (some ⟨fb, fo, none⟩) xn fc)) (hkc : w.cell? ⟨kb, ko, none⟩ = some (.int .i64 (J : Int))) (qJ : (J : Int) < (na : Int)) (hK1 : 1 ≤ Wd) (hK2 : Wd ≤ 4096) (ha : An ≤ 4096) :
    Calls Tryz.prog 45 #[.slice da nd dc, .agg #[.int .i64 8, .int .i64 vr, .int .i64 (An : Int), .int .i64 Bb, .int .i64 bw, .slice wa nw wc, .slice (some ⟨kb, ko, none⟩) 1 kc], .slice (some ⟨ab, ao, none⟩) na ac] w (RetIt (betS (An % Wd) Wd 0 F ++ betS 0 (An % Wd) 0 F) w) := by
  have lab := block_lt_of_cell hfc
  have lkb := block_lt_of_cell hkc
  have qJ0 : (J : Int) ≥ 0 := by omega
  obtain ⟨md, hmdE⟩ : ∃ md, An % Wd = md := ⟨_, rfl⟩
  have hmd := Nat.mod_lt An (show 0 < Wd by omega)
  have q8 : (An : Int) % (Wd : Int) = ((An % Wd : Nat) : Int) := by omega
  rw [hmdE] at q8 hmd ⊢
  have q9 : IntKind.i64.wrap ((Wd : Int) - (md : Int)) = ((Wd - md : Nat) : Int) := by rw [IntKind.wrap_i64]; omega
  clear hmdE
  have BY : Hid (Below w.heap.size w (w.alloc (Obj.cells #[Value.int .i64 8, Value.int .i64 vr, Value.int .i64 (An : Int), Value.int .i64 Bb, Value.int .i64 bw, Value.slice wa nw wc, Value.slice (some ⟨kb, ko, none⟩) 1 kc] 62))) := (Below.refl _ _).alloc (Nat.le_refl _) _
  have XY : Hid (Bz (w.alloc (Obj.cells #[Value.int .i64 8, Value.int .i64 vr, Value.int .i64 (An : Int), Value.int .i64 Bb, Value.int .i64 bw, Value.slice wa nw wc, Value.slice (some ⟨kb, ko, none⟩) 1 kc] 62)) w.heap.size #[Value.int .i64 8, Value.int .i64 vr, Value.int .i64 (An : Int), Value.int .i64 Bb, Value.int .i64 bw, Value.slice wa nw wc, Value.slice (some ⟨kb, ko, none⟩) 1 kc] 62) := Bz.new w _ _
  go_enter Tryz.func45, Tryz.ntmps45
  go_wp2_with fail
  generalize w.alloc (Obj.cells #[Value.int .i64 8, Value.int .i64 vr, Value.int .i64 (An : Int), Value.int .i64 Bb, Value.int .i64 bw, Value.slice wa nw wc, Value.slice (some ⟨kb, ko, none⟩) 1 kc] 62) = Y at *
  refine Calls.mono (HFW.out Y BY.out) ?_
  rintro e wy ⟨rfl, hb2⟩
  have B2 := kide (BY.out.trans (hb2.mono BY.out.size))
  obtain ⟨b0, hb0⟩ : ∃ b0, w.heap.size = b0 := ⟨_, rfl⟩
  have HB0 := kide hb0
  rw [hb0] at XY
  simp only [hb0]
  have X2 := kide (XY.out.later hb2)
  have c0 := X2.out.cell 0
  have c2 := X2.out.cell 2
  have c3 := X2.out.cell 3
  simp at c0 c2 c3
  clear hb2 hb0 BY XY
  go_wp2_with fail
  refine Calls.mono (turned_it (k := Wd - md) (HFM.out.later B2.out) HS.out hK2 (by omega)) ?_
  rintro e w4 ⟨v4, rfl, hi4, hb4⟩
  have I4 := kide hi4
  have B4 := kide (B2.out.trans (hb4.mono B2.out.size))
  clear hi4 hb4
  go_wp2_with fail
  exact bodyPost_ret (v := v4) (by simp [results, Tryz.results45, go_sem]) rfl ⟨v4, rfl, by have h9 := I4.out; rw [show Wd - (Wd - md) = md by omega] at h9; exact h9, B4.out⟩

set_option maxHeartbeats 4000000 in
set_option maxRecDepth 100000 in
theorem seg9 {da : Option Addr} {dc nd An  nw wc kb ko kc ab ao na ac fb fo fc xn Wd J : Nat} {vr Bb bw : Int} {wa : Option Addr} {F : List Sc} {xs : List Sg} {w : World} (HFM : Hid (Fm w (.slice (some ⟨fb, fo, none⟩) xn fc) F xs)) (HS : Hid (sumS F = (Wd : Int)))
    (HFW : Hid (∀ u, Below w.heap.size w u → Calls Tryz.prog 68 #[.slice (some ⟨fb, fo, none⟩) xn fc] u fun e w' => e = .returned (.int .i64 (Wd : Int)) ∧ Below u.heap.size u w'))
    (hfc : w.cell? ⟨ab, ao + J, none⟩ = some (.slice (some ⟨fb, fo, none⟩) xn fc)) (hkc : w.cell? ⟨kb, ko, none⟩ = some (.int .i64 (J : Int))) (qJ : (J : Int) < (na : Int)) (hK1 : 1 ≤ Wd) (hK2 : Wd ≤ 4096) (hA1 : 1 ≤ An) (hA4 : An ≤ 4096) :
    Calls Tryz.prog 45 #[.slice da nd dc, .agg #[.int .i64 9, .int .i64 vr, .int .i64 (An : Int), .int .i64 Bb, .int .i64 bw, .slice wa nw wc, .slice (some ⟨kb, ko, none⟩) 1 kc], .slice (some ⟨ab, ao, none⟩) na ac] w (RetIt ((List.replicate An F).flatten) w) := by
  have lab := block_lt_of_cell hfc
  have lkb := block_lt_of_cell hkc
  have qJ0 : (J : Int) ≥ 0 := by omega
  have BY : Hid (Below w.heap.size w (w.alloc (Obj.cells #[Value.int .i64 9, Value.int .i64 vr, Value.int .i64 (An : Int), Value.int .i64 Bb, Value.int .i64 bw, Value.slice wa nw wc, Value.slice (some ⟨kb, ko, none⟩) 1 kc] 62))) := (Below.refl _ _).alloc (Nat.le_refl _) _
  have XY : Hid (Bz (w.alloc (Obj.cells #[Value.int .i64 9, Value.int .i64 vr, Value.int .i64 (An : Int), Value.int .i64 Bb, Value.int .i64 bw, Value.slice wa nw wc, Value.slice (some ⟨kb, ko, none⟩) 1 kc] 62)) w.heap.size #[Value.int .i64 9, Value.int .i64 vr, Value.int .i64 (An : Int), Value.int .i64 Bb, Value.int .i64 bw, Value.slice wa nw wc, Value.slice (some ⟨kb, ko, none⟩) 1 kc] 62) := Bz.new w _ _
  go_enter Tryz.func45, Tryz.ntmps45
  go_wp2_with fail
  generalize w.alloc (Obj.cells #[Value.int .i64 9, Value.int .i64 vr, Value.int .i64 (An : Int), Value.int .i64 Bb, Value.int .i64 bw, Value.slice wa nw wc, Value.slice (some ⟨kb, ko, none⟩) 1 kc] 62) = Y at *
  refine Calls.mono (HFW.out Y BY.out) ?_
  rintro e wy ⟨rfl, hb2⟩
  have B2 := kide (BY.out.trans (hb2.mono BY.out.size))
  obtain ⟨b0, hb0⟩ : ∃ b0, w.heap.size = b0 := ⟨_, rfl⟩
  have HB0 := kide hb0
  rw [hb0] at XY
  simp only [hb0]
  have X2 := kide (XY.out.later hb2)
  have c0 := X2.out.cell 0
  have c2 := X2.out.cell 2
  have c3 := X2.out.cell 3
  simp at c0 c2 c3
  clear hb2 hb0 BY XY
  go_wp2_with fail
  refine wp_region_x (SA := fun _ => False) (SB := fun uu => Below wy.heap.size wy uu) (k := 999) (by kernel_rfl) ?_
  have hu0 : Hid (Below wy.heap.size wy wy.drew) := (Below.refl _ _).drew
  generalize wy.drew = u0 at *
  try go_simp
  refine wpAnyX_both (T := fun uu => Below wy.heap.size wy uu) (i := 0) (v := Value.slice (some ⟨fb, fo, none⟩) xn fc) rfl (by kernel_rfl) (by kernel_rfl) (by kernel_rfl) (fun _ _ _ h => by first | exact h | exact h.elim) (by decide) (fun _ h => h.elim) (fun _ h => h) (Sx.behind (by kernel_rfl) hu0.out) (Or.inl ⟨by rfl, fun uu hu => by go_simp⟩) ?_
  try go_simp
  refine wpAnyX_both (T := fun uu => Below wy.heap.size wy uu) (i := 3) (v := Value.pointer (some ⟨b0, 2, none⟩)) rfl (by kernel_rfl) (by kernel_rfl) (by kernel_rfl) (fun _ _ _ h => by first | exact h | exact h.elim) (by decide) (fun _ h => h.elim) (fun _ h => h) (Sx.behind (by kernel_rfl) hu0.out) (Or.inl ⟨by rfl, fun uu hu => by go_simp⟩) ?_
  try go_simp
  refine wpAnyX_both (T := fun uu => Below wy.heap.size wy uu) (i := 4) (v := Value.int .i64 (An : Int)) rfl (by kernel_rfl) (by kernel_rfl) (by kernel_rfl) (fun _ _ _ h => by first | exact h | exact h.elim) (by decide) (fun _ h => h.elim) (fun _ h => h) (Sx.behind (by kernel_rfl) hu0.out) (Or.inl ⟨by rfl, fun uu hu => by have e0 := (kcell hu b0 2 X2.out.lt).trans c2; go_simp⟩) ?_
  try go_simp
  refine wpAnyX_ready (rs := [1]) (by kernel_rfl) (by simp) (AllX.cons rfl (fun K hK => ?_) AllX.nil)
  go_simp
  refine Calls.mono (values_it (HFM.out.later (B2.out.trans (hu0.out.mono B2.out.size)))) ?_
  rintro e u1 ⟨v1, rfl, hi1, hb1⟩
  have hu1 : Hid (Below wy.heap.size wy u1) := hu0.out.trans (hb1.mono hu0.out.size)
  obtain ⟨g1, lb1, rfl, -⟩ := id hi1.is
  have I1_1 : Hid (Itr (F) u1 (Value.func (Fn.func g1) #[] lb1)) := hi1
  clear hi1
  refine hK _ _ (Sx.behind (by kernel_rfl) hu1.out) ?_
  clear hK K hb1
  try go_simp
  refine wpAnyX_ready (rs := [2]) (by kernel_rfl) (by simp) (AllX.cons rfl (fun K hK => ?_) AllX.nil)
  go_simp
  refine hK _ _ (Sx.behind (by kernel_rfl) (hu1.out.alloc hu1.out.size _)) ?_
  clear hK K
  have hu2 : Hid (Below wy.heap.size wy (u1.alloc (Obj.cells #[Value.func (Fn.func g1) #[] lb1] 91))) := hu1.out.alloc hu1.out.size _
  have bbb_2 : Hid (Bz (u1.alloc (Obj.cells #[Value.func (Fn.func g1) #[] lb1] 91)) u1.heap.size #[Value.func (Fn.func g1) #[] lb1] 91) := Bz.new _ _ _
  have w2 : Below u1.heap.size u1 (u1.alloc (Obj.cells #[Value.func (Fn.func g1) #[] lb1] 91)) := (Below.refl _ _).alloc (Nat.le_refl _) _
  have I1_2 : Hid (Itr (F) (u1.alloc (Obj.cells #[Value.func (Fn.func g1) #[] lb1] 91)) (Value.func (Fn.func g1) #[] lb1)) := I1_1.out.later w2
  have lbb : wy.heap.size ≤ u1.heap.size := hu1.out.size
  clear w2
  generalize hqbb : u1.heap.size = bb at *
  generalize u1.alloc (Obj.cells #[Value.func (Fn.func g1) #[] lb1] 91) = u2 at *
  clear hqbb
  try go_simp
  refine wpAnyX_ready (rs := [5]) (by kernel_rfl) (by simp) (AllX.cons rfl (fun K hK => ?_) AllX.nil)
  go_simp
  refine Calls.mono (repeat_any bb 1 An (Value.func (Fn.func g1) #[] lb1) u2 hA1 hA4 rfl (bbb_2.out.cell 0)) ?_
  rintro e u3 ⟨gr, rfl, hrc, hb2⟩
  have hu3 : Hid (Below wy.heap.size wy u3) := hu2.out.trans (hb2.mono hu2.out.size)
  have bbb_3 : Hid (Bz u3 bb #[Value.func (Fn.func g1) #[] lb1] 91) := Bz.later bbb_2.out hb2
  have I1_3 : Hid (Itr (F) u3 (Value.func (Fn.func g1) #[] lb1)) := I1_2.out.later hb2
  have RC_3 : Hid (∀ i, i < An → u3.cell? ⟨gr, i, none⟩ = some (Value.func (Fn.func g1) #[] lb1)) := hrc
  clear hrc
  refine hK _ _ (Sx.behind (by kernel_rfl) hu3.out) ?_
  clear hK K hb2
  try go_simp
  refine wpAnyX_ready (rs := [6]) (by kernel_rfl) (by simp) (AllX.cons rfl (fun K hK => ?_) AllX.nil)
  go_simp
  refine Calls.mono (inTurnR I1_3.out hA1 hA4 RC_3.out) ?_
  rintro e u4 ⟨v4, rfl, hi4, hb4⟩
  have hu4 : Hid (Below wy.heap.size wy u4) := hu3.out.trans (hb4.mono hu3.out.size)
  have bbb_4 : Hid (Bz u4 bb #[Value.func (Fn.func g1) #[] lb1] 91) := Bz.later bbb_3.out hb4
  have I1_4 : Hid (Itr (F) u4 (Value.func (Fn.func g1) #[] lb1)) := I1_3.out.later hb4
  have RC_4 : Hid (∀ i, i < An → u4.cell? ⟨gr, i, none⟩ = some (Value.func (Fn.func g1) #[] lb1)) := (fun i hi => (kcell hb4 gr i (block_lt_of_cell (RC_3.out i hi))).trans (RC_3.out i hi))
  obtain ⟨g4, lb4, rfl, -⟩ := id hi4.is
  have I4_4 := kide hi4
  clear hi4
  refine hK _ _ (Sx.behind (by kernel_rfl) hu4.out) ?_
  clear hK K hb4
  try go_simp
  refine wpAnyX_both (T := fun uu => Below wy.heap.size wy uu) (i := 7) (v := Value.func (Fn.func g4) #[] lb4) rfl (by kernel_rfl) (by kernel_rfl) (by kernel_rfl) (fun _ _ _ h => by first | exact h | exact h.elim) (by decide) (fun _ h => h.elim) (fun _ h => h) (Sx.behind (by kernel_rfl) hu4.out) (Or.inl ⟨by rfl, fun uu hu => by go_simp⟩) ?_
  try go_simp
  refine wpAnyX_done (by kernel_rfl) ?_ _
  have B4 := kide (B2.out.trans (hu4.out.mono B2.out.size))
  go_wp2_with fail
  exact bodyPost_ret (v := Value.func (Fn.func g4) #[] lb4) (by simp [results, Tryz.results45, go_sem]) rfl ⟨_, rfl, I4_4.out, B4.out⟩

end Go.Proofs.YtckidgpopbpagaaGreatDoor
