/- DrawSettle. -/
import Derived.Test.YtmfamdonbgmjbaaDoorUDD
import Derived.Test.YtmfamdonbgmjbaaDoorSVJ
namespace Go.Proofs.YtmfamdonbgmjbaaDoor
set_option linter.unusedVariables false
set_option linter.unusedSimpArgs false
open Go.RowKit
def RetDS (w : World) (e : Ending) (w' : World) : Prop := ∃ (S : Int) (ca : Option Addr) (nc cc : Nat) (xs : List Iw) (most : Int), e = .returned (.tuple #[.agg #[.int .i64 S, .slice ca nc cc], .int .i64 most]) ∧ in64 S ∧ in64 most ∧ xs.length = nc ∧ nc ≤ 30 ∧ GotC w' w.heap.size ca xs ∧ Below w.heap.size w w'
/-- Clauses, boxed. -/
structure Kd (w2 w : World) (β : Nat) (a : Option Addr) (c : Nat) (bs : List Nat) (cb : Nat) (S : Int) (cv : Value) : Prop where
  box : Bz w cb #[.int .i64 S, cv] 29
  rr : Rr w β a c bs
  dw : Dw β w2 w
theorem Kd.far {w2 w w' : World} {β : Nat} {a : Option Addr} {c : Nat} {bs : List Nat} {cb : Nat} {S : Int} {cv : Value} (h : Kd w2 w β a c bs cb S cv) (hd : Dw β w w') (hr : Rr w' β a c bs) (hβ : β < w2.heap.size) (h1 : w2.heap.size ≤ cb) : Kd w2 w' β a c bs cb S cv :=
  ⟨h.box.farD hd (by omega), hr, h.dw.trans hd⟩
theorem Kd.later {w2 w w' : World} {β : Nat} {a : Option Addr} {c : Nat} {bs : List Nat} {cb : Nat} {S : Int} {cv : Value} (h : Kd w2 w β a c bs cb S cv) (hb : Below w.heap.size w w') : Kd w2 w' β a c bs cb S cv := ⟨h.box.later hb, h.rr.later hb, h.dw.trans (Dw.of hb)⟩
theorem Kd.set {w2 w : World} {β : Nat} {a : Option Addr} {c : Nat} {bs : List Nat} {cb : Nat} {S : Int} {cv : Value} (h : Kd w2 w β a c bs cb S cv) (hr0 : Rr w2 β a c bs) (h1 : w2.heap.size ≤ cb) (x : Int) : Kd w2 (w.setCell ⟨cb, 0, none⟩ (.int .i64 x)) β a c bs cb x cv :=
  ⟨h.box.set 0 _, hr0.far h.rr ((Gs.refl cb w).set 0 _) (fun k e => by cases e; exact h1), h.dw.own ((Gs.refl cb w).set 0 _) (fun k e => by cases e; exact h1)⟩
set_option maxHeartbeats 4000000 in
set_option maxRecDepth 100000 in
theorem drawSettle_any (a : Option Addr) (c : Nat) (bs : List Nat) (w : World) (hr : RdB w a bs) :
    Calls Tryd.prog 28 #[.slice a bs.length c] w (RetDS w) := by
  have hb0 : Below w.heap.size w (w.alloc (Obj.cells #[Value.int .i64 0, Value.slice none 0 0] 29)) := (Below.refl _ _).alloc (Nat.le_refl _) _
  have X0 := kide (Bz.new w #[Value.int .i64 0, Value.slice none 0 0] 29)
  have R0 := kide (hr.later hb0)
  have B0 := kide hb0
  clear hr hb0
  go_enter Tryd.func28, Tryd.ntmps28
  go_wp2_with fail
  generalize w.alloc (Obj.cells #[Value.int .i64 0, Value.slice none 0 0] 29) = w0 at *
  refine Calls.mono (open_any a c bs _ R0.out) ?_
  rintro e w1 ⟨β, rfl, hβ0, hr1, hb1⟩
  have hβ := hr1.lt
  have X1 := kide (X0.out.later hb1)
  have B1 := kide (B0.out.trans (hb1.mono B0.out.size))
  have hrb : w.heap.size < w0.heap.size := X0.out.lt
  have R1 := kide hr1
  clear hb1 hr1 X0 R0 B0
  go_wp2_with fail
  refine Calls.mono (cnf_any β a c bs _ R1.out) ?_
  rintro e w2 ⟨S, ca, nc, cc, xs, rfl, hS, hxl, hn30, hgc, hr2, hd2⟩
  have X2 : Hid (Bz w2 w.heap.size #[Value.int .i64 0, Value.slice none 0 0] 29) := X1.out.farD hd2 (by omega)
  have B2 : Hid (Below w.heap.size w w2) := B1.out.trans (hd2.below (by omega) (by omega))
  have hs12 : w1.heap.size ≤ w2.heap.size := hd2.size
  have HGC := kide hgc
  have HXL := kide hxl
  have HN30 := kide hn30
  have R2 := kide hr2
  have HS := kide hS
  have hβ2 : β < w2.heap.size := by omega
  have hb3 : Below w2.heap.size w2 (w2.alloc (Obj.cells #[Value.int .i64 S, Value.slice ca nc cc] 29)) := (Below.refl _ _).alloc (Nat.le_refl _) _
  have K3 : Hid (Kd w2 (w2.alloc (Obj.cells #[Value.int .i64 S, Value.slice ca nc cc] 29)) β a c bs w2.heap.size S (.slice ca nc cc)) := ⟨Bz.new w2 _ _, hr2.later hb3, Dw.of hb3⟩
  have XRB : Hid (∀ W, Dw β w2 W → Bz W w.heap.size #[Value.int .i64 0, Value.slice none 0 0] 29) := fun W hd => X2.out.farD hd (by omega)
  have FIN : Hid (∀ (W : World) (cb : Nat) (S most : Int), in64 S → in64 most → Kd w2 W β a c bs cb S (.slice ca nc cc) → RetDS w (.returned (.tuple #[.agg #[.int .i64 S, .slice ca nc cc], .int .i64 most])) ((W.setCell ⟨w.heap.size, 0, none⟩ (.int .i64 S)).setCell ⟨w.heap.size, 1, none⟩ (.slice ca nc cc))) := fun W cb S most hS hm hk => by
    have d1 : Dw β w2 W := hk.dw
    have g0 := HGC.out.1.far d1 hβ
    have oth : ∀ k, k ≠ w.heap.size → ((W.setCell ⟨w.heap.size, 0, none⟩ (.int .i64 S)).setCell ⟨w.heap.size, 1, none⟩ (.slice ca nc cc)).heap[k]? = W.heap[k]? := fun k hk => by
      rw [heap_setCell_other _ _ _ _ (by show k ≠ _; exact hk), heap_setCell_other _ _ _ _ (by show k ≠ _; exact hk)]
    have hlo : w.heap.size < w1.heap.size := by omega
    have g1 : GotII ((W.setCell ⟨w.heap.size, 0, none⟩ (.int .i64 S)).setCell ⟨w.heap.size, 1, none⟩ (.slice ca nc cc)) w1.heap.size ca xs := g0.far (β := w.heap.size) ⟨rfl, rfl, rfl, by simp, fun k _ hk => oth k (fun e => hk (by rw [e]))⟩ hlo
    refine ⟨S, ca, nc, cc, xs, most, rfl, hS, hm, HXL.out, HN30.out, ⟨⟨g1.1, fun p hp => by have := g1.2.1 p hp; omega, fun x hx p hp => by have := g1.2.2 x hx p hp; omega⟩, HGC.out.2⟩, ?_⟩
    have b1 : Below w.heap.size w W := B2.out.trans (d1.below (by omega) (by omega))
    exact (b1.setCell (p := ⟨w.heap.size, 0, none⟩) (Nat.le_refl _) _).setCell (p := ⟨w.heap.size, 1, none⟩) (Nat.le_refl _) _
  have REST : Hid (∀ W, Rr W β a c bs → Calls Tryd.prog 46 #[.pointer (some ⟨β, 0, none⟩), .int .i64 4] W fun e w' => ∃ x : Bool, e = .returned (.bool x) ∧ Rr w' β a c bs ∧ Dw β W w') := fun W h => once_any 4 (by omega) (by omega) β a c bs W h
  clear hgc hr2 hd2 hxl hn30 X1 B1 R1 hb3
  obtain ⟨hS1, hS2⟩ := hS
  by_cases h12 : S > 12
  · have hb12 : Below w2.heap.size w2 (w2.alloc (Obj.cells #[Value.int .i64 12, Value.slice ca nc cc] 29)) := (Below.refl _ _).alloc (Nat.le_refl _) _
    have K4 : Hid (Kd w2 (w2.alloc (Obj.cells #[Value.int .i64 12, Value.slice ca nc cc] 29)) β a c bs w2.heap.size 12 (.slice ca nc cc)) := ⟨Bz.new w2 _ _, R2.out.later hb12, Dw.of hb12⟩
    have HSV : Hid (in64 12) := by show in64 12; unfold in64; omega
    clear hb12 K3
    go_wp2_with fail
    generalize w2.alloc (Obj.cells #[Value.int .i64 12, Value.slice ca nc cc] 29) = w4 at *
    have hcw : w2.heap.size ≤ w2.heap.size := Nat.le_refl _
    have hne9 : w2.heap.size ≠ w.heap.size := by omega
    generalize hcb9 : w2.heap.size = cb at K4 hcw hne9 ⊢
    rw [← hcb9] at hcw
    refine Calls.mono (REST.out _ K4.out.rr) ?_
    rintro e w5 ⟨xx, rfl, hr5, hd5⟩
    have K5 := kide (K4.out.far hd5 hr5 hβ2 (by omega))
    replace hcw : w2.heap.size ≤ cb := by omega
    clear hr5 hd5 K4 hcb9
    cases xx with
    | true =>
      go_wp2_with fail
      refine wp_region_x (SA := fun _ => False) (SB := fun uu => uu.cell? ⟨cb, 0, none⟩ = some (Value.int .i64 12) ∧ uu.cell? ⟨cb, 1, none⟩ = some (Value.slice ca nc cc)) (k := 999) (by kernel_rfl) ?_
      have hbd : Below w5.heap.size w5 w5.drew := (Below.refl _ _).drew
      have KQ0 := kide (K5.out.later hbd)
      have c0_0 : w5.drew.cell? ⟨cb, 0, none⟩ = some (Value.int .i64 12) := KQ0.out.box.cell 0
      have c1_0 : w5.drew.cell? ⟨cb, 1, none⟩ = some (Value.slice ca nc cc) := KQ0.out.box.cell 1
      clear hbd
      generalize w5.drew = q0 at *
      have hs0 : Hid ((fun uu => uu.cell? ⟨cb, 0, none⟩ = some (Value.int .i64 12) ∧ uu.cell? ⟨cb, 1, none⟩ = some (Value.slice ca nc cc)) q0) := ⟨c0_0, c1_0⟩
      try go_simp
      refine wpAnyX_both (T := (fun uu => uu.cell? ⟨cb, 0, none⟩ = some (Value.int .i64 12) ∧ uu.cell? ⟨cb, 1, none⟩ = some (Value.slice ca nc cc))) (i := 0) (v := Value.agg #[Value.int .i64 12, Value.slice ca nc cc]) rfl (by kernel_rfl) (by kernel_rfl) (by kernel_rfl) (fun _ _ _ h => by first | exact h | exact h.elim) (by decide) (fun _ h => h.elim) (fun _ h => h) (Sx.behind (by kernel_rfl) hs0.out) (Or.inl ⟨by rfl, fun uu hu => by obtain ⟨e0, e1⟩ := hu; go_simp⟩) ?_
      try go_simp
      refine wpAnyX_both (T := (fun _ => True)) (i := 1) (v := Value.pointer (some ⟨β, 0, none⟩)) rfl (by kernel_rfl) (by kernel_rfl) (by kernel_rfl) (fun _ _ _ h => by first | exact h | exact h.elim) (by decide) (fun _ _ => trivial) (fun _ _ => trivial) (Sx.behind (by kernel_rfl) hs0.out) (Or.inl ⟨by rfl, fun uu hu => by go_simp⟩) ?_
      try go_simp
      refine wpAnyX_ready (rs := [2]) (by kernel_rfl) (by simp) (AllX.cons rfl (fun K hK => ?_) AllX.nil)
      go_simp
      refine Calls.mono (off0_any 5 (by unfold in64; omega) β a c bs q0 KQ0.out.rr) ?_
      rintro e q1 ⟨yv, rfl, hyi, hr8, hd8⟩
      have KQ1 := kide (KQ0.out.far hd8 hr8 hβ2 hcw)
      have HYI := kide hyi
      have c0_1 : q1.cell? ⟨cb, 0, none⟩ = some (Value.int .i64 12) := KQ1.out.box.cell 0
      have c1_1 : q1.cell? ⟨cb, 1, none⟩ = some (Value.slice ca nc cc) := KQ1.out.box.cell 1
      clear hyi hr8 hd8
      have hs1 : Hid ((fun uu => uu.cell? ⟨cb, 0, none⟩ = some (Value.int .i64 12) ∧ uu.cell? ⟨cb, 1, none⟩ = some (Value.slice ca nc cc)) q1) := ⟨c0_1, c1_1⟩
      refine hK _ _ (Sx.behind (by kernel_rfl) hs1.out) ?_
      clear hK K
      try go_simp
      refine wpAnyX_ready (rs := [3]) (by kernel_rfl) (by simp) (AllX.cons rfl (fun K hK => ?_) AllX.nil)
      have r0 : q1.cell? ⟨w.heap.size, 0, none⟩ = some (.int .i64 0) := (XRB.out _ KQ1.out.dw).cell 0
      have r1 : q1.cell? ⟨w.heap.size, 1, none⟩ = some (.slice none 0 0) := (XRB.out _ KQ1.out.dw).cell 1
      have f0 := (XRB.out _ KQ1.out.dw).froz 0
      have f1 := (XRB.out _ KQ1.out.dw).froz 1
      go_simp
      have FN := kide (FIN.out q1 cb 12 yv HSV.out HYI.out KQ1.out)
      have RB2 : Hid (Bz ((q1.setCell ⟨w.heap.size, 0, none⟩ (Value.int .i64 12)).setCell ⟨w.heap.size, 1, none⟩ (Value.slice ca nc cc)) w.heap.size #[Value.int .i64 12, Value.slice ca nc cc] 29) := ((XRB.out _ KQ1.out.dw).set 0 _).set 1 _
      have BX2 : Bz ((q1.setCell ⟨w.heap.size, 0, none⟩ (Value.int .i64 12)).setCell ⟨w.heap.size, 1, none⟩ (Value.slice ca nc cc)) cb #[Value.int .i64 12, Value.slice ca nc cc] 29 := (heap_setCell_other _ _ _ _ (by show cb ≠ _; exact hne9)).trans ((heap_setCell_other _ _ _ _ (by show cb ≠ _; exact hne9)).trans KQ1.out.box)
      have c0_2 : ((q1.setCell ⟨w.heap.size, 0, none⟩ (Value.int .i64 12)).setCell ⟨w.heap.size, 1, none⟩ (Value.slice ca nc cc)).cell? ⟨cb, 0, none⟩ = some (Value.int .i64 12) := BX2.cell 0
      have c1_2 : ((q1.setCell ⟨w.heap.size, 0, none⟩ (Value.int .i64 12)).setCell ⟨w.heap.size, 1, none⟩ (Value.slice ca nc cc)).cell? ⟨cb, 1, none⟩ = some (Value.slice ca nc cc) := BX2.cell 1
      clear BX2 r0 r1 f0 f1
      generalize ((q1.setCell ⟨w.heap.size, 0, none⟩ (Value.int .i64 12)).setCell ⟨w.heap.size, 1, none⟩ (Value.slice ca nc cc)) = q2 at *
      have hs2 : Hid ((fun uu => uu.cell? ⟨cb, 0, none⟩ = some (Value.int .i64 12) ∧ uu.cell? ⟨cb, 1, none⟩ = some (Value.slice ca nc cc)) q2) := ⟨c0_2, c1_2⟩
      refine hK _ _ (Sx.behind (by kernel_rfl) hs2.out) ?_
      clear hK K
      try go_simp
      refine wpAnyX_both (T := (fun _ => True)) (i := 4) (v := Value.int .i64 yv) rfl (by kernel_rfl) (by kernel_rfl) (by kernel_rfl) (fun _ _ _ h => by first | exact h | exact h.elim) (by decide) (fun _ _ => trivial) (fun _ _ => trivial) (Sx.behind (by kernel_rfl) hs2.out) (Or.inl ⟨by rfl, fun uu hu => by go_simp⟩) ?_
      try go_simp
      refine wpAnyX_done (by kernel_rfl) ?_ _
      have z0 : q2.cell? ⟨w.heap.size, 0, none⟩ = some (Value.int .i64 12) := RB2.out.cell 0
      have z1 : q2.cell? ⟨w.heap.size, 1, none⟩ = some (Value.slice ca nc cc) := RB2.out.cell 1
      go_wp2_with fail
      exact bodyPost_ret (v := .tuple #[.agg #[Value.int .i64 12, Value.slice ca nc cc], .int .i64 yv]) (by simp [results, Tryd.results28, go_sem, z0, z1]) rfl FN.out
    | false =>
      go_wp2_with fail
      refine wp_region_x (SA := fun _ => False) (SB := fun uu => uu.cell? ⟨cb, 0, none⟩ = some (Value.int .i64 12) ∧ uu.cell? ⟨cb, 1, none⟩ = some (Value.slice ca nc cc)) (k := 999) (by kernel_rfl) ?_
      have hbd : Below w5.heap.size w5 w5.drew := (Below.refl _ _).drew
      have KQ0 := kide (K5.out.later hbd)
      have c0_0 : w5.drew.cell? ⟨cb, 0, none⟩ = some (Value.int .i64 12) := KQ0.out.box.cell 0
      have c1_0 : w5.drew.cell? ⟨cb, 1, none⟩ = some (Value.slice ca nc cc) := KQ0.out.box.cell 1
      clear hbd
      generalize w5.drew = q0 at *
      have hs0 : Hid ((fun uu => uu.cell? ⟨cb, 0, none⟩ = some (Value.int .i64 12) ∧ uu.cell? ⟨cb, 1, none⟩ = some (Value.slice ca nc cc)) q0) := ⟨c0_0, c1_0⟩
      try go_simp
      refine wpAnyX_both (T := (fun uu => uu.cell? ⟨cb, 0, none⟩ = some (Value.int .i64 12) ∧ uu.cell? ⟨cb, 1, none⟩ = some (Value.slice ca nc cc))) (i := 0) (v := Value.agg #[Value.int .i64 12, Value.slice ca nc cc]) rfl (by kernel_rfl) (by kernel_rfl) (by kernel_rfl) (fun _ _ _ h => by first | exact h | exact h.elim) (by decide) (fun _ h => h.elim) (fun _ h => h) (Sx.behind (by kernel_rfl) hs0.out) (Or.inl ⟨by rfl, fun uu hu => by obtain ⟨e0, e1⟩ := hu; go_simp⟩) ?_
      try go_simp
      refine wpAnyX_both (T := (fun _ => True)) (i := 1) (v := Value.pointer (some ⟨β, 0, none⟩)) rfl (by kernel_rfl) (by kernel_rfl) (by kernel_rfl) (fun _ _ _ h => by first | exact h | exact h.elim) (by decide) (fun _ _ => trivial) (fun _ _ => trivial) (Sx.behind (by kernel_rfl) hs0.out) (Or.inl ⟨by rfl, fun uu hu => by go_simp⟩) ?_
      try go_simp
      refine wpAnyX_ready (rs := [2]) (by kernel_rfl) (by simp) (AllX.cons rfl (fun K hK => ?_) AllX.nil)
      go_simp
      refine Calls.mono (off0_any 300 (by unfold in64; omega) β a c bs q0 KQ0.out.rr) ?_
      rintro e q1 ⟨yv, rfl, hyi, hr8, hd8⟩
      have KQ1 := kide (KQ0.out.far hd8 hr8 hβ2 hcw)
      have HYI := kide hyi
      have c0_1 : q1.cell? ⟨cb, 0, none⟩ = some (Value.int .i64 12) := KQ1.out.box.cell 0
      have c1_1 : q1.cell? ⟨cb, 1, none⟩ = some (Value.slice ca nc cc) := KQ1.out.box.cell 1
      clear hyi hr8 hd8
      have hs1 : Hid ((fun uu => uu.cell? ⟨cb, 0, none⟩ = some (Value.int .i64 12) ∧ uu.cell? ⟨cb, 1, none⟩ = some (Value.slice ca nc cc)) q1) := ⟨c0_1, c1_1⟩
      refine hK _ _ (Sx.behind (by kernel_rfl) hs1.out) ?_
      clear hK K
      try go_simp
      refine wpAnyX_ready (rs := [3]) (by kernel_rfl) (by simp) (AllX.cons rfl (fun K hK => ?_) AllX.nil)
      have r0 : q1.cell? ⟨w.heap.size, 0, none⟩ = some (.int .i64 0) := (XRB.out _ KQ1.out.dw).cell 0
      have r1 : q1.cell? ⟨w.heap.size, 1, none⟩ = some (.slice none 0 0) := (XRB.out _ KQ1.out.dw).cell 1
      have f0 := (XRB.out _ KQ1.out.dw).froz 0
      have f1 := (XRB.out _ KQ1.out.dw).froz 1
      go_simp
      have FN := kide (FIN.out q1 cb 12 yv HSV.out HYI.out KQ1.out)
      have RB2 : Hid (Bz ((q1.setCell ⟨w.heap.size, 0, none⟩ (Value.int .i64 12)).setCell ⟨w.heap.size, 1, none⟩ (Value.slice ca nc cc)) w.heap.size #[Value.int .i64 12, Value.slice ca nc cc] 29) := ((XRB.out _ KQ1.out.dw).set 0 _).set 1 _
      have BX2 : Bz ((q1.setCell ⟨w.heap.size, 0, none⟩ (Value.int .i64 12)).setCell ⟨w.heap.size, 1, none⟩ (Value.slice ca nc cc)) cb #[Value.int .i64 12, Value.slice ca nc cc] 29 := (heap_setCell_other _ _ _ _ (by show cb ≠ _; exact hne9)).trans ((heap_setCell_other _ _ _ _ (by show cb ≠ _; exact hne9)).trans KQ1.out.box)
      have c0_2 : ((q1.setCell ⟨w.heap.size, 0, none⟩ (Value.int .i64 12)).setCell ⟨w.heap.size, 1, none⟩ (Value.slice ca nc cc)).cell? ⟨cb, 0, none⟩ = some (Value.int .i64 12) := BX2.cell 0
      have c1_2 : ((q1.setCell ⟨w.heap.size, 0, none⟩ (Value.int .i64 12)).setCell ⟨w.heap.size, 1, none⟩ (Value.slice ca nc cc)).cell? ⟨cb, 1, none⟩ = some (Value.slice ca nc cc) := BX2.cell 1
      clear BX2 r0 r1 f0 f1
      generalize ((q1.setCell ⟨w.heap.size, 0, none⟩ (Value.int .i64 12)).setCell ⟨w.heap.size, 1, none⟩ (Value.slice ca nc cc)) = q2 at *
      have hs2 : Hid ((fun uu => uu.cell? ⟨cb, 0, none⟩ = some (Value.int .i64 12) ∧ uu.cell? ⟨cb, 1, none⟩ = some (Value.slice ca nc cc)) q2) := ⟨c0_2, c1_2⟩
      refine hK _ _ (Sx.behind (by kernel_rfl) hs2.out) ?_
      clear hK K
      try go_simp
      refine wpAnyX_both (T := (fun _ => True)) (i := 4) (v := Value.int .i64 yv) rfl (by kernel_rfl) (by kernel_rfl) (by kernel_rfl) (fun _ _ _ h => by first | exact h | exact h.elim) (by decide) (fun _ _ => trivial) (fun _ _ => trivial) (Sx.behind (by kernel_rfl) hs2.out) (Or.inl ⟨by rfl, fun uu hu => by go_simp⟩) ?_
      try go_simp
      refine wpAnyX_done (by kernel_rfl) ?_ _
      have z0 : q2.cell? ⟨w.heap.size, 0, none⟩ = some (Value.int .i64 12) := RB2.out.cell 0
      have z1 : q2.cell? ⟨w.heap.size, 1, none⟩ = some (Value.slice ca nc cc) := RB2.out.cell 1
      go_wp2_with fail
      exact bodyPost_ret (v := .tuple #[.agg #[Value.int .i64 12, Value.slice ca nc cc], .int .i64 yv]) (by simp [results, Tryd.results28, go_sem, z0, z1]) rfl FN.out
  · have K4 := kide K3.out
    have HSV := kide HS.out
    clear K3
    go_wp2_with fail
    generalize w2.alloc (Obj.cells #[Value.int .i64 S, Value.slice ca nc cc] 29) = w4 at *
    have hcw : w2.heap.size ≤ w2.heap.size := Nat.le_refl _
    have hne9 : w2.heap.size ≠ w.heap.size := by omega
    generalize hcb9 : w2.heap.size = cb at K4 hcw hne9 ⊢
    rw [← hcb9] at hcw
    refine Calls.mono (REST.out _ K4.out.rr) ?_
    rintro e w5 ⟨xx, rfl, hr5, hd5⟩
    have K5 := kide (K4.out.far hd5 hr5 hβ2 (by omega))
    replace hcw : w2.heap.size ≤ cb := by omega
    clear hr5 hd5 K4 hcb9
    cases xx with
    | true =>
      go_wp2_with fail
      refine wp_region_x (SA := fun _ => False) (SB := fun uu => uu.cell? ⟨cb, 0, none⟩ = some (Value.int .i64 S) ∧ uu.cell? ⟨cb, 1, none⟩ = some (Value.slice ca nc cc)) (k := 999) (by kernel_rfl) ?_
      have hbd : Below w5.heap.size w5 w5.drew := (Below.refl _ _).drew
      have KQ0 := kide (K5.out.later hbd)
      have c0_0 : w5.drew.cell? ⟨cb, 0, none⟩ = some (Value.int .i64 S) := KQ0.out.box.cell 0
      have c1_0 : w5.drew.cell? ⟨cb, 1, none⟩ = some (Value.slice ca nc cc) := KQ0.out.box.cell 1
      clear hbd
      generalize w5.drew = q0 at *
      have hs0 : Hid ((fun uu => uu.cell? ⟨cb, 0, none⟩ = some (Value.int .i64 S) ∧ uu.cell? ⟨cb, 1, none⟩ = some (Value.slice ca nc cc)) q0) := ⟨c0_0, c1_0⟩
      try go_simp
      refine wpAnyX_both (T := (fun uu => uu.cell? ⟨cb, 0, none⟩ = some (Value.int .i64 S) ∧ uu.cell? ⟨cb, 1, none⟩ = some (Value.slice ca nc cc))) (i := 0) (v := Value.agg #[Value.int .i64 S, Value.slice ca nc cc]) rfl (by kernel_rfl) (by kernel_rfl) (by kernel_rfl) (fun _ _ _ h => by first | exact h | exact h.elim) (by decide) (fun _ h => h.elim) (fun _ h => h) (Sx.behind (by kernel_rfl) hs0.out) (Or.inl ⟨by rfl, fun uu hu => by obtain ⟨e0, e1⟩ := hu; go_simp⟩) ?_
      try go_simp
      refine wpAnyX_both (T := (fun _ => True)) (i := 1) (v := Value.pointer (some ⟨β, 0, none⟩)) rfl (by kernel_rfl) (by kernel_rfl) (by kernel_rfl) (fun _ _ _ h => by first | exact h | exact h.elim) (by decide) (fun _ _ => trivial) (fun _ _ => trivial) (Sx.behind (by kernel_rfl) hs0.out) (Or.inl ⟨by rfl, fun uu hu => by go_simp⟩) ?_
      try go_simp
      refine wpAnyX_ready (rs := [2]) (by kernel_rfl) (by simp) (AllX.cons rfl (fun K hK => ?_) AllX.nil)
      go_simp
      refine Calls.mono (off0_any 5 (by unfold in64; omega) β a c bs q0 KQ0.out.rr) ?_
      rintro e q1 ⟨yv, rfl, hyi, hr8, hd8⟩
      have KQ1 := kide (KQ0.out.far hd8 hr8 hβ2 hcw)
      have HYI := kide hyi
      have c0_1 : q1.cell? ⟨cb, 0, none⟩ = some (Value.int .i64 S) := KQ1.out.box.cell 0
      have c1_1 : q1.cell? ⟨cb, 1, none⟩ = some (Value.slice ca nc cc) := KQ1.out.box.cell 1
      clear hyi hr8 hd8
      have hs1 : Hid ((fun uu => uu.cell? ⟨cb, 0, none⟩ = some (Value.int .i64 S) ∧ uu.cell? ⟨cb, 1, none⟩ = some (Value.slice ca nc cc)) q1) := ⟨c0_1, c1_1⟩
      refine hK _ _ (Sx.behind (by kernel_rfl) hs1.out) ?_
      clear hK K
      try go_simp
      refine wpAnyX_ready (rs := [3]) (by kernel_rfl) (by simp) (AllX.cons rfl (fun K hK => ?_) AllX.nil)
      have r0 : q1.cell? ⟨w.heap.size, 0, none⟩ = some (.int .i64 0) := (XRB.out _ KQ1.out.dw).cell 0
      have r1 : q1.cell? ⟨w.heap.size, 1, none⟩ = some (.slice none 0 0) := (XRB.out _ KQ1.out.dw).cell 1
      have f0 := (XRB.out _ KQ1.out.dw).froz 0
      have f1 := (XRB.out _ KQ1.out.dw).froz 1
      go_simp
      have FN := kide (FIN.out q1 cb S yv HSV.out HYI.out KQ1.out)
      have RB2 : Hid (Bz ((q1.setCell ⟨w.heap.size, 0, none⟩ (Value.int .i64 S)).setCell ⟨w.heap.size, 1, none⟩ (Value.slice ca nc cc)) w.heap.size #[Value.int .i64 S, Value.slice ca nc cc] 29) := ((XRB.out _ KQ1.out.dw).set 0 _).set 1 _
      have BX2 : Bz ((q1.setCell ⟨w.heap.size, 0, none⟩ (Value.int .i64 S)).setCell ⟨w.heap.size, 1, none⟩ (Value.slice ca nc cc)) cb #[Value.int .i64 S, Value.slice ca nc cc] 29 := (heap_setCell_other _ _ _ _ (by show cb ≠ _; exact hne9)).trans ((heap_setCell_other _ _ _ _ (by show cb ≠ _; exact hne9)).trans KQ1.out.box)
      have c0_2 : ((q1.setCell ⟨w.heap.size, 0, none⟩ (Value.int .i64 S)).setCell ⟨w.heap.size, 1, none⟩ (Value.slice ca nc cc)).cell? ⟨cb, 0, none⟩ = some (Value.int .i64 S) := BX2.cell 0
      have c1_2 : ((q1.setCell ⟨w.heap.size, 0, none⟩ (Value.int .i64 S)).setCell ⟨w.heap.size, 1, none⟩ (Value.slice ca nc cc)).cell? ⟨cb, 1, none⟩ = some (Value.slice ca nc cc) := BX2.cell 1
      clear BX2 r0 r1 f0 f1
      generalize ((q1.setCell ⟨w.heap.size, 0, none⟩ (Value.int .i64 S)).setCell ⟨w.heap.size, 1, none⟩ (Value.slice ca nc cc)) = q2 at *
      have hs2 : Hid ((fun uu => uu.cell? ⟨cb, 0, none⟩ = some (Value.int .i64 S) ∧ uu.cell? ⟨cb, 1, none⟩ = some (Value.slice ca nc cc)) q2) := ⟨c0_2, c1_2⟩
      refine hK _ _ (Sx.behind (by kernel_rfl) hs2.out) ?_
      clear hK K
      try go_simp
      refine wpAnyX_both (T := (fun _ => True)) (i := 4) (v := Value.int .i64 yv) rfl (by kernel_rfl) (by kernel_rfl) (by kernel_rfl) (fun _ _ _ h => by first | exact h | exact h.elim) (by decide) (fun _ _ => trivial) (fun _ _ => trivial) (Sx.behind (by kernel_rfl) hs2.out) (Or.inl ⟨by rfl, fun uu hu => by go_simp⟩) ?_
      try go_simp
      refine wpAnyX_done (by kernel_rfl) ?_ _
      have z0 : q2.cell? ⟨w.heap.size, 0, none⟩ = some (Value.int .i64 S) := RB2.out.cell 0
      have z1 : q2.cell? ⟨w.heap.size, 1, none⟩ = some (Value.slice ca nc cc) := RB2.out.cell 1
      go_wp2_with fail
      exact bodyPost_ret (v := .tuple #[.agg #[Value.int .i64 S, Value.slice ca nc cc], .int .i64 yv]) (by simp [results, Tryd.results28, go_sem, z0, z1]) rfl FN.out
    | false =>
      go_wp2_with fail
      refine wp_region_x (SA := fun _ => False) (SB := fun uu => uu.cell? ⟨cb, 0, none⟩ = some (Value.int .i64 S) ∧ uu.cell? ⟨cb, 1, none⟩ = some (Value.slice ca nc cc)) (k := 999) (by kernel_rfl) ?_
      have hbd : Below w5.heap.size w5 w5.drew := (Below.refl _ _).drew
      have KQ0 := kide (K5.out.later hbd)
      have c0_0 : w5.drew.cell? ⟨cb, 0, none⟩ = some (Value.int .i64 S) := KQ0.out.box.cell 0
      have c1_0 : w5.drew.cell? ⟨cb, 1, none⟩ = some (Value.slice ca nc cc) := KQ0.out.box.cell 1
      clear hbd
      generalize w5.drew = q0 at *
      have hs0 : Hid ((fun uu => uu.cell? ⟨cb, 0, none⟩ = some (Value.int .i64 S) ∧ uu.cell? ⟨cb, 1, none⟩ = some (Value.slice ca nc cc)) q0) := ⟨c0_0, c1_0⟩
      try go_simp
      refine wpAnyX_both (T := (fun uu => uu.cell? ⟨cb, 0, none⟩ = some (Value.int .i64 S) ∧ uu.cell? ⟨cb, 1, none⟩ = some (Value.slice ca nc cc))) (i := 0) (v := Value.agg #[Value.int .i64 S, Value.slice ca nc cc]) rfl (by kernel_rfl) (by kernel_rfl) (by kernel_rfl) (fun _ _ _ h => by first | exact h | exact h.elim) (by decide) (fun _ h => h.elim) (fun _ h => h) (Sx.behind (by kernel_rfl) hs0.out) (Or.inl ⟨by rfl, fun uu hu => by obtain ⟨e0, e1⟩ := hu; go_simp⟩) ?_
      try go_simp
      refine wpAnyX_both (T := (fun _ => True)) (i := 1) (v := Value.pointer (some ⟨β, 0, none⟩)) rfl (by kernel_rfl) (by kernel_rfl) (by kernel_rfl) (fun _ _ _ h => by first | exact h | exact h.elim) (by decide) (fun _ _ => trivial) (fun _ _ => trivial) (Sx.behind (by kernel_rfl) hs0.out) (Or.inl ⟨by rfl, fun uu hu => by go_simp⟩) ?_
      try go_simp
      refine wpAnyX_ready (rs := [2]) (by kernel_rfl) (by simp) (AllX.cons rfl (fun K hK => ?_) AllX.nil)
      go_simp
      refine Calls.mono (off0_any 300 (by unfold in64; omega) β a c bs q0 KQ0.out.rr) ?_
      rintro e q1 ⟨yv, rfl, hyi, hr8, hd8⟩
      have KQ1 := kide (KQ0.out.far hd8 hr8 hβ2 hcw)
      have HYI := kide hyi
      have c0_1 : q1.cell? ⟨cb, 0, none⟩ = some (Value.int .i64 S) := KQ1.out.box.cell 0
      have c1_1 : q1.cell? ⟨cb, 1, none⟩ = some (Value.slice ca nc cc) := KQ1.out.box.cell 1
      clear hyi hr8 hd8
      have hs1 : Hid ((fun uu => uu.cell? ⟨cb, 0, none⟩ = some (Value.int .i64 S) ∧ uu.cell? ⟨cb, 1, none⟩ = some (Value.slice ca nc cc)) q1) := ⟨c0_1, c1_1⟩
      refine hK _ _ (Sx.behind (by kernel_rfl) hs1.out) ?_
      clear hK K
      try go_simp
      refine wpAnyX_ready (rs := [3]) (by kernel_rfl) (by simp) (AllX.cons rfl (fun K hK => ?_) AllX.nil)
      have r0 : q1.cell? ⟨w.heap.size, 0, none⟩ = some (.int .i64 0) := (XRB.out _ KQ1.out.dw).cell 0
      have r1 : q1.cell? ⟨w.heap.size, 1, none⟩ = some (.slice none 0 0) := (XRB.out _ KQ1.out.dw).cell 1
      have f0 := (XRB.out _ KQ1.out.dw).froz 0
      have f1 := (XRB.out _ KQ1.out.dw).froz 1
      go_simp
      have FN := kide (FIN.out q1 cb S yv HSV.out HYI.out KQ1.out)
      have RB2 : Hid (Bz ((q1.setCell ⟨w.heap.size, 0, none⟩ (Value.int .i64 S)).setCell ⟨w.heap.size, 1, none⟩ (Value.slice ca nc cc)) w.heap.size #[Value.int .i64 S, Value.slice ca nc cc] 29) := ((XRB.out _ KQ1.out.dw).set 0 _).set 1 _
      have BX2 : Bz ((q1.setCell ⟨w.heap.size, 0, none⟩ (Value.int .i64 S)).setCell ⟨w.heap.size, 1, none⟩ (Value.slice ca nc cc)) cb #[Value.int .i64 S, Value.slice ca nc cc] 29 := (heap_setCell_other _ _ _ _ (by show cb ≠ _; exact hne9)).trans ((heap_setCell_other _ _ _ _ (by show cb ≠ _; exact hne9)).trans KQ1.out.box)
      have c0_2 : ((q1.setCell ⟨w.heap.size, 0, none⟩ (Value.int .i64 S)).setCell ⟨w.heap.size, 1, none⟩ (Value.slice ca nc cc)).cell? ⟨cb, 0, none⟩ = some (Value.int .i64 S) := BX2.cell 0
      have c1_2 : ((q1.setCell ⟨w.heap.size, 0, none⟩ (Value.int .i64 S)).setCell ⟨w.heap.size, 1, none⟩ (Value.slice ca nc cc)).cell? ⟨cb, 1, none⟩ = some (Value.slice ca nc cc) := BX2.cell 1
      clear BX2 r0 r1 f0 f1
      generalize ((q1.setCell ⟨w.heap.size, 0, none⟩ (Value.int .i64 S)).setCell ⟨w.heap.size, 1, none⟩ (Value.slice ca nc cc)) = q2 at *
      have hs2 : Hid ((fun uu => uu.cell? ⟨cb, 0, none⟩ = some (Value.int .i64 S) ∧ uu.cell? ⟨cb, 1, none⟩ = some (Value.slice ca nc cc)) q2) := ⟨c0_2, c1_2⟩
      refine hK _ _ (Sx.behind (by kernel_rfl) hs2.out) ?_
      clear hK K
      try go_simp
      refine wpAnyX_both (T := (fun _ => True)) (i := 4) (v := Value.int .i64 yv) rfl (by kernel_rfl) (by kernel_rfl) (by kernel_rfl) (fun _ _ _ h => by first | exact h | exact h.elim) (by decide) (fun _ _ => trivial) (fun _ _ => trivial) (Sx.behind (by kernel_rfl) hs2.out) (Or.inl ⟨by rfl, fun uu hu => by go_simp⟩) ?_
      try go_simp
      refine wpAnyX_done (by kernel_rfl) ?_ _
      have z0 : q2.cell? ⟨w.heap.size, 0, none⟩ = some (Value.int .i64 S) := RB2.out.cell 0
      have z1 : q2.cell? ⟨w.heap.size, 1, none⟩ = some (Value.slice ca nc cc) := RB2.out.cell 1
      go_wp2_with fail
      exact bodyPost_ret (v := .tuple #[.agg #[Value.int .i64 S, Value.slice ca nc cc], .int .i64 yv]) (by simp [results, Tryd.results28, go_sem, z0, z1]) rfl FN.out
end Go.Proofs.YtmfamdonbgmjbaaDoor
