/- Several texts in one. -/
import Derived.Test.YtkngpgonmedgpaaGreatDoorRX
import Derived.Test.YtkngpgonmedgpaaGreatDoorGAR
namespace Go.Proofs.YtkngpgonmedgpaaGreatDoor
open Go.RowKit
set_option linter.unusedVariables false
set_option linter.unusedSimpArgs false
def OddLitAny : Prop := ∀ (w0 w : World) (β : Nat) (a : Option Addr) (c : Nat) (bs : List Nat) (da : Option Addr) (ds : List Dc) (dc n most : Nat), Dl w0 w β a c bs da ds → ds.length = n → 1 ≤ n → n ≤ 6 → (∀ x ∈ ds, 1 ≤ x.2 ∧ x.2 ≤ 200) → 1 ≤ most → most ≤ 60 →
  Calls Tryz.prog 37 #[.pointer (some ⟨β, 0, none⟩), .slice da n dc, .int .i64 (most : Int)] w (RetLo w0 β a c bs da ds w)
def RetDH (w : World) (e : Ending) (w' : World) : Prop := ∃ a1 c1 ds a2 c2 xs, ∃ x : Lg, e = .returned (.tuple #[.slice a1 ds.length c1, .slice a2 xs.length c2, x.val]) ∧ RdD w' a1 ds ∧ RdW w' a2 xs ∧ RdT w' x.sa x.ss ∧ RdT w' x.ta x.ts ∧ in64 x.id ∧ Below w.heap.size w w'
set_option maxHeartbeats 1000000 in
theorem drawHolds_any (HO2 : OddLitAny) (a : Option Addr) (c : Nat) (bs : List Nat) (w : World) (h : RdB w a bs) :
  Calls Tryz.prog 8 #[.slice a bs.length c] w (RetDH w) := by
 have hba : Below w.heap.size w (w.alloc (Obj.cells #[.int .i64 0, .bool false, .slice none 0 0, .slice none 0 0] 30)) := (Below.refl _ _).alloc (Nat.le_refl _) _
 have X0 := kide (Bz.new w #[.int .i64 0, .bool false, .slice none 0 0, .slice none 0 0] 30)
 have BA := kide hba
 have HO := kide (open_any a c bs _ (h.later hba))
 have HOL := kide HO2
 have hlb := h.1
 generalize bs.length = bn at *
 clear h HO2 hba
 go_enter Tryz.func8, Tryz.ntmps8
 go_wp2_with fail
 obtain ⟨rb, hrb⟩ : ∃ rb, w.heap.size = rb := ⟨_, rfl⟩
 rw [hrb] at X0 ⊢
 have HRB := kide hrb
 clear hrb
 generalize w.alloc (Obj.cells #[.int .i64 0, .bool false, .slice none 0 0, .slice none 0 0] 30) = wz at *
 refine Calls.mono HO.out ?_
 rintro e w1 ⟨β, rfl, hβ, r1, hb1⟩
 have hrb0 : rb < wz.heap.size := X0.out.lt
 have R1 := kide r1
 have B1 := kide hb1
 have X1 := kide (X0.out.later hb1)
 have hz1 : wz.heap.size ≤ w1.heap.size := hb1.size
 clear r1 hb1 HO X0
 go_wp2_with fail
 refine Calls.mono (decls_any β a c bs w1 R1.out) ?_
 rintro e w2 ⟨v2, ds, rfl, o2, hd1, hd6, hdx, r2, d2⟩
 have R2 := kide r2
 have D2 := kide d2
 have X2 : Hid (Bz w2 rb #[.int .i64 0, .bool false, .slice none 0 0, .slice none 0 0] 30) := X1.out.far d2 (by omega)
 have HL1 := R1.out.lt
 obtain ⟨a1, c1, rfl, hrd⟩ := o2.rd (by omega) (fun x hx => ⟨by have := hdx x hx; unfold in64; omega, by have := (hdx x hx).2.2; omega⟩)
 have O2 := kide o2
 have RD2 := kide hrd
 have HDX := kide hdx
 have HA1 : Hid (∀ p, a1 = some p → p.block ≠ β ∧ p.block < w2.heap.size) := fun p hp => by
  subst hp
  have := (o2.lt (b := p.block) (by rcases o2.2 with ⟨e', -⟩ | ⟨g, cap, cur, e', -⟩ <;> cases e'; rfl))
  exact ⟨by omega, this.2⟩
 have HA2 : Hid (∀ p, a1 = some p → p.block ≠ rb) := fun p hp => by
  subst hp
  have := (o2.lt (b := p.block) (by rcases o2.2 with ⟨e', -⟩ | ⟨g, cap, cur, e', -⟩ <;> cases e'; rfl))
  omega
 have HL2 : β < w2.heap.size := Nat.lt_of_lt_of_le HL1 D2.out.size
 have hz2 : w1.heap.size ≤ w2.heap.size := D2.out.size
 clear r2 d2 o2 hrd hdx X1
 have HVL := kide (values_any β a c bs a1 c1 ds w2 R2.out RD2.out (fun p hp => (HA1.out p hp).1) hd1 hd6 (fun x hx => ⟨(HDX.out x hx).1, (HDX.out x hx).2.1⟩))
 obtain ⟨n, hn⟩ : ∃ n, ds.length = n := ⟨_, rfl⟩
 have HN := kide hn
 rw [hn] at hd1 hd6 HVL ⊢
 clear hn
 go_wp2_with fail
 refine Calls.mono HVL.out ?_
 rintro e w3 ⟨a2, c2, xs, rfl, hx6, g3, r3, d3⟩
 have G3 := kide g3
 have D3 := kide d3
 have X3 : Hid (Bz w3 rb #[.int .i64 0, .bool false, .slice none 0 0, .slice none 0 0] 30) := X2.out.far d3 (by omega)
 have DL : Hid (Dl w3 w3 β a c bs a1 ds) := ⟨r3, r3, Dw.refl _ _, RD2.out.farB d3 (fun p hp => (HA1.out p hp).1), Nat.lt_of_lt_of_le HL2 d3.size, fun p hp => ⟨(HA1.out p hp).1, Nat.lt_of_lt_of_le (HA1.out p hp).2 d3.size⟩⟩
 obtain ⟨nx, hnx⟩ : ∃ nx, xs.length = nx := ⟨_, rfl⟩
 have HNX := kide hnx
 have hz3 : w2.heap.size ≤ w3.heap.size := d3.size
 rw [hnx]
 clear g3 r3 d3 HVL hnx X2
 go_wp2_with fail
 refine Calls.mono (HOL.out w3 w3 β a c bs a1 ds c1 n 1 DL.out HN.out hd1 hd6 (fun x hx => ⟨(HDX.out x hx).1, (HDX.out x hx).2.1⟩) (by omega) (by omega)) ?_
 rintro e w4 ⟨v4, ls, rfl, hlr, hl61, hdl, hdw⟩
 obtain ⟨a3, c3, rfl⟩ := ol4_form hlr.row
 have X4 : Hid (Bz w4 rb #[.int .i64 0, .bool false, .slice none 0 0, .slice none 0 0] 30) := X3.out.far hdw (by omega)
 have LR := kide hlr
 have G4 := kide (G3.out.far hdw HL2)
 have hz4 : w3.heap.size ≤ w4.heap.size := hdw.size
 have BB : Hid (Below w.heap.size w w4) := by
  have h1 : Below wz.heap.size w1 w4 := ((D2.out.below hβ hz1).trans ((D3.out.below hβ (by omega)).trans (hdw.below hβ (by omega))))
  exact BA.out.trans ((B1.out.trans h1).mono BA.out.size)
 have FX : Hid (∀ (x : Lg) (hx : ∀ u, Dw rb w4 u → RdT u x.sa x.ss ∧ RdT u x.ta x.ts ∧ in64 x.id) (w5 : World) (h5 : Below w4.heap.size w4 w5) (Y : World) (hY : Y = put4 w5 rb (.int .i64 x.id) (.bool x.eq) (.slice x.sa x.ss.length x.sc) (.slice x.ta x.ts.length x.tc)), RetDH w (.returned (.tuple #[.slice a1 n c1, .slice a2 nx c2, x.val])) Y ∧ Bz Y rb #[.int .i64 x.id, .bool x.eq, .slice x.sa x.ss.length x.sc, .slice x.ta x.ts.length x.tc] 30) := fun x hx w5 h5 Y hY => by
  subst hY
  have hg := put4_grown w5 rb (.int .i64 x.id) (.bool x.eq) (.slice x.sa x.ss.length x.sc) (.slice x.ta x.ts.length x.tc)
  have hD : Dw rb w4 (put4 w5 rb (.int .i64 x.id) (.bool x.eq) (.slice x.sa x.ss.length x.sc) (.slice x.ta x.ts.length x.tc)) := (Dw.of h5).trans hg
  obtain ⟨h1, h2, h3⟩ := hx _ hD
  refine ⟨⟨a1, c1, ds, a2, c2, xs, x, by rw [HN.out, HNX.out], hdl.dd.farB hD HA2.out, (G4.out.far hD (by omega)).1, h1, h2, h3, ?_⟩, put4_box (X4.out.later h5) _ _ _ _⟩
  exact BB.out.trans (hD.below (by rw [HRB.out]; exact Nat.le_refl _) BB.out.size)
 have x0 := X4.out.cell 0
 have x1 := X4.out.cell 1
 have x2 := X4.out.cell 2
 have x3 := X4.out.cell 3
 have f0 := X4.out.froz 0
 have f1 := X4.out.froz 1
 have f2 := X4.out.froz 2
 have f3 := X4.out.froz 3
 simp at x0 x1 x2 x3
 clear hdl hdw DL X3
 by_cases hz : ls.length = 0
 ·rw [hz]
  clear hlr
  go_wp2_with fail
  obtain ⟨hret, hbox⟩ := FX.out ⟨1, false, [], none, 0, [], none, 0⟩ (fun u _ => ⟨⟨by simp, .inl rfl⟩, ⟨by simp, .inl rfl⟩, by show in64 1; unfold in64; omega⟩) _ (Below.refl _ _) _ rfl
  have z0 := hbox.cell 0
  have z1 := hbox.cell 1
  have z2 := hbox.cell 2
  have z3 := hbox.cell 3
  unfold put4 at hret z0 z1 z2 z3
  simp only [List.getElem?_toArray, List.getElem?_cons_zero, List.getElem?_cons_succ, List.length_nil] at z0 z1 z2 z3 hret
  exact bodyPost_ret (v := .tuple #[.slice a1 n c1, .slice a2 nx c2, .agg #[.int .i64 1, .bool false, .slice none 0 0, .slice none 0 0]]) (by simp [results, Tryz.results8, go_sem, z0, z1, z2, z3]) rfl hret
 ·obtain ⟨g, rfl⟩ := hlr.at (by omega)
  obtain ⟨x, hx⟩ : ∃ x, ls[0]? = some x := ⟨_, List.getElem?_eq_getElem (by omega)⟩
  obtain ⟨q0, q1, q2, q3⟩ := hlr.row.cellJ hx
  simp only [Nat.zero_mul, Nat.zero_add] at q0 q1 q2 q3
  have hlp : (0 : Int) < (ls.length : Int) := by omega
  have hle : ((ls.length : Int) == 0) = false := beq_eq_false_iff_ne.2 (by omega)
  have HX := kide (fun (u : World) (hu : Dw rb w4 u) => ((LR.out.far hu (by omega)).all x (List.mem_of_getElem? hx)).rd)
  generalize ls.length = nl at *
  clear hlr hz
  go_wp2_with fail
  refine wp_region_x (SA := fun uu => uu.cell? ⟨g, 0, none⟩ = some (Value.int .i64 x.id) ∧ uu.cell? ⟨g, 1, none⟩ = some (Value.bool x.eq) ∧ uu.cell? ⟨g, 2, none⟩ = some (Value.slice x.sa x.ss.length x.sc) ∧ uu.cell? ⟨g, 3, none⟩ = some (Value.slice x.ta x.ts.length x.tc)) (SB := fun _ => True) (k := 7) (by kernel_rfl) ?_
  have hdr : Below w4.heap.size w4 w4.drew := (Below.refl _ _).drew
  have FY : Hid (∀ Y, Y = put4 w4.drew rb (.int .i64 x.id) (.bool x.eq) (.slice x.sa x.ss.length x.sc) (.slice x.ta x.ts.length x.tc) → RetDH w (.returned (.tuple #[.slice a1 n c1, .slice a2 nx c2, x.val])) Y ∧ Bz Y rb #[.int .i64 x.id, .bool x.eq, .slice x.sa x.ss.length x.sc, .slice x.ta x.ts.length x.tc] 30) := fun Y hY => FX.out x HX.out w4.drew hdr Y hY
  have y0 : w4.drew.cell? ⟨rb, 0, none⟩ = _ := x0
  have y1 : w4.drew.cell? ⟨rb, 1, none⟩ = _ := x1
  have y2 : w4.drew.cell? ⟨rb, 2, none⟩ = _ := x2
  have y3 : w4.drew.cell? ⟨rb, 3, none⟩ = _ := x3
  have z0 : w4.drew.frozen? ⟨rb, 0, none⟩ = false := f0
  have z1 : w4.drew.frozen? ⟨rb, 1, none⟩ = false := f1
  have z2 : w4.drew.frozen? ⟨rb, 2, none⟩ = false := f2
  have z3 : w4.drew.frozen? ⟨rb, 3, none⟩ = false := f3
  clear FX HX
  have c0_0 : w4.drew.cell? ⟨g, 0, none⟩ = some (Value.int .i64 x.id) := q0
  have c1_0 : w4.drew.cell? ⟨g, 1, none⟩ = some (Value.bool x.eq) := q1
  have c2_0 : w4.drew.cell? ⟨g, 2, none⟩ = some (Value.slice x.sa x.ss.length x.sc) := q2
  have c3_0 : w4.drew.cell? ⟨g, 3, none⟩ = some (Value.slice x.ta x.ts.length x.tc) := q3
  generalize w4.drew = u0 at *
  have hs0 : Hid ((fun uu => uu.cell? ⟨g, 0, none⟩ = some (Value.int .i64 x.id) ∧ uu.cell? ⟨g, 1, none⟩ = some (Value.bool x.eq) ∧ uu.cell? ⟨g, 2, none⟩ = some (Value.slice x.sa x.ss.length x.sc) ∧ uu.cell? ⟨g, 3, none⟩ = some (Value.slice x.ta x.ts.length x.tc)) u0) := ⟨c0_0, c1_0, c2_0, c3_0⟩
  try go_simp
  refine tkT (i := 0) (v := Value.slice a1 n c1) rfl (by kernel_rfl) (fun _ _ _ h => by first | exact h | exact h.elim) (Sx.before (by kernel_rfl) hs0.out) (Or.inl ⟨by rfl, fun uu hu => by go_simp⟩) ?_
  try go_simp
  refine tkT (i := 1) (v := Value.slice a2 nx c2) rfl (by kernel_rfl) (fun _ _ _ h => by first | exact h | exact h.elim) (Sx.before (by kernel_rfl) hs0.out) (Or.inl ⟨by rfl, fun uu hu => by go_simp⟩) ?_
  try go_simp
  refine tkT (i := 2) (v := Value.slice (some ⟨g, 0, none⟩) nl c3) rfl (by kernel_rfl) (fun _ _ _ h => by first | exact h | exact h.elim) (Sx.before (by kernel_rfl) hs0.out) (Or.inl ⟨by rfl, fun uu hu => by go_simp⟩) ?_
  try go_simp
  refine tkT (i := 3) (v := Value.pointer (some ⟨g, 0, none⟩)) rfl (by kernel_rfl) (fun _ _ _ h => by first | exact h | exact h.elim) (Sx.before (by kernel_rfl) hs0.out) (Or.inl ⟨by rfl, fun uu hu => by go_simp; intro h9; omega⟩) ?_
  try go_simp
  refine tkX (i := 4) (v := Value.agg #[.int .i64 x.id, .bool x.eq, .slice x.sa x.ss.length x.sc, .slice x.ta x.ts.length x.tc]) rfl (by kernel_rfl) (fun _ _ _ h => by first | exact h | exact h.elim) hs0.out (Or.inl ⟨by rfl, fun uu hu => by obtain ⟨e0, e1, e2, e3⟩ := hu; go_simp⟩) ?_
  try go_simp
  refine tkT (i := 5) (v := Value.slice a1 n c1) rfl (by kernel_rfl) (fun _ _ _ h => by first | exact h | exact h.elim) (Sx.before (by kernel_rfl) hs0.out) (Or.inl ⟨by rfl, fun uu hu => by go_simp⟩) ?_
  try go_simp
  refine tkT (i := 6) (v := Value.slice a2 nx c2) rfl (by kernel_rfl) (fun _ _ _ h => by first | exact h | exact h.elim) (Sx.before (by kernel_rfl) hs0.out) (Or.inl ⟨by rfl, fun uu hu => by go_simp⟩) ?_
  try go_simp
  refine wpAnyX_ready (rs := [7]) (by kernel_rfl) (by simp) (AllX.cons rfl (fun K hK => ?_) AllX.nil)
  go_simp
  obtain ⟨u1, hu1⟩ : ∃ z, (((u0.setCell ⟨rb, 0, none⟩ (.int .i64 x.id)).setCell ⟨rb, 1, none⟩ (.bool x.eq)).setCell ⟨rb, 2, none⟩ (.slice x.sa x.ss.length x.sc)).setCell ⟨rb, 3, none⟩ (.slice x.ta x.ts.length x.tc) = z := ⟨_, rfl⟩
  rw [hu1]
  refine hK _ _ (Sx.behind (by kernel_rfl) trivial) ?_
  clear hK K
  try go_simp
  refine wpAnyX_done (by kernel_rfl) ?_ _
  obtain ⟨hret, hbox⟩ := FY.out u1 hu1.symm
  have k0 := hbox.cell 0
  have k1 := hbox.cell 1
  have k2 := hbox.cell 2
  have k3 := hbox.cell 3
  simp only [List.getElem?_toArray, List.getElem?_cons_zero, List.getElem?_cons_succ] at k0 k1 k2 k3
  clear hu1 FY
  go_wp2_with fail
  exact bodyPost_ret (v := .tuple #[.slice a1 n c1, .slice a2 nx c2, x.val]) (by simp [results, Tryz.results8, go_sem, k0, k1, k2, k3, Lg.val]) rfl hret

theorem big_any (a : Option Addr) (n c : Nat) (w : World) (hn : n ≤ 9223372036854775807) :
  Calls Tryz.prog 7 #[.slice a n c] w fun e w' => e = .returned (.bool (decide (1048576 < n))) ∧ w' = w := by
 by_cases h : 1048576 < n
 ·have hi : (1048576 : Int) < (n : Int) := by omega
  go_enter Tryz.func7, Tryz.ntmps7
  go_wp2
  go_ret
  exact ⟨by simp [h], rfl⟩
 ·have hi : ¬ (1048576 : Int) < (n : Int) := by omega
  go_enter Tryz.func7, Tryz.ntmps7
  go_wp2
  go_ret
  exact ⟨by simp [h], rfl⟩

end Go.Proofs.YtkngpgonmedgpaaGreatDoor
