/- Whether a binding fits: by the given text and by the program; of some of them. -/
import Derived.Test.YtbpodkdlhjgncaaGreatDoorBNM
import Derived.Test.YtbpodkdlhjgncaaGreatDoorZVN
import Derived.Test.YtbpodkdlhjgncaaGreatDoorZVC
namespace Go.Proofs.YtbpodkdlhjgncaaGreatDoor
set_option linter.unusedVariables false
set_option linter.unusedSimpArgs false
open Go.RowKit

theorem bndOk_out {ds : List Dc} {b : Vc} (h : ¬ (0 ≤ b.v ∧ b.v < (ds.length : Int))) : bndOk ds b = false := by simp [bndOk, h]
theorem bndOk_in {ds : List Dc} {b : Vc} {k : Nat} {d : Dc} (hv : b.v = (k : Int)) (hk : ds[k]? = some d) : bndOk ds b = decide (widR ds b.ts = d.2) := by
  have hl := (List.getElem?_eq_some_iff.1 hk).1
  have h1 : (0 ≤ b.v ∧ b.v < (ds.length : Int)) := by omega
  have h2 : b.v.toNat = k := by omega
  simp only [bndOk, h1, h2, List.getD_eq_getElem?_getD, hk, Option.getD_some]
  simp

set_option maxHeartbeats 1000000 in
theorem l16Fits_any (a : Option Addr) (c dn : Nat) (ds : List Dc) (x : Vg) (w : World) (hr : RdD w a ds) (hx : RdT w x.ta x.ts) (hD : dclR ds = true) (hdn : ds.length = dn) :
    Calls Tryz.prog 23 #[.slice a dn c, x.val] w fun e w' => e = .returned (.bool (bndOk ds x.ct)) ∧ Below w.heap.size w w' := by
  obtain ⟨v, ts, ta, tc⟩ := x
  simp only [Vg.val] at hx ⊢
  have HDO := kide (fun u (hu : Below w.heap.size w u) => specDecls_any a c ds u (hr.later hu))
  have HWO := kide (fun u (hu : Below w.heap.size w u) => specWidth_any a ta c tc ts.length ds ts u (hr.later hu) (hx.later hu) rfl)
  rw [hD] at HDO
  rw [hdn] at HDO HWO
  have B0 : Hid (Below w.heap.size w (w.alloc (Obj.cells #[Value.int .i64 v, Value.slice ta ts.length tc] 62))) := (Below.refl _ _).alloc (Nat.le_refl _) _
  have X0 := kide (Bz.new w #[Value.int .i64 v, Value.slice ta ts.length tc] 62)
  have hl60 := (dclR_iff.1 hD).1
  rw [hdn] at hl60
  have HIN := kide (fun u => l1In_any v 0 ((dn : Int) - 1) u)
  obtain ⟨R, hRR⟩ : ∃ R, bndOk ds (Vg.ct ⟨v, ts, ta, tc⟩) = R := ⟨_, rfl⟩
  rw [hRR]
  have HRR := kide hRR
  have HR := kide hr
  have HDN := kide hdn
  clear hr hx hD hdn hRR
  generalize hsn : ts.length = tn at *
  by_cases hin : 0 ≤ v ∧ v < (dn : Int)
  · obtain ⟨k, rfl⟩ := Int.eq_ofNat_of_zero_le hin.1
    obtain ⟨d, hd⟩ : ∃ d, ds[k]? = some d := ⟨ds[k]'(by have := HDN.out; omega), List.getElem?_eq_getElem _⟩
    rw [decide_eq_true (show 0 ≤ ((k : Nat) : Int) ∧ ((k : Nat) : Int) ≤ (dn : Int) - 1 by omega)] at HIN
    have HV : Hid (R = decide (widR ds (ts.map Tg.ct) = d.2)) := by
      show _ = _
      rw [← HRR.out]
      exact bndOk_in rfl hd
    have HDD := kide hd
    clear hd
    have i0 : ((k : Nat) : Int) < (dn : Int) := hin.2
    obtain ⟨-, -, h | ⟨ab, ao, rfl, hcs⟩⟩ := id HR.out
    · have := HDN.out; rw [h] at this; simp at this; omega
    have HDA : Hid (∀ uu, Below w.heap.size w uu → uu.cell? ⟨ab, ao + k * 2 + 1, none⟩ = some (.int .i64 d.2)) := fun uu hu => (kcell hu _ _ (block_lt_of_cell (hcs k d HDD.out).2)).trans (hcs k d HDD.out).2
    clear hcs
    obtain ⟨dw, hdw⟩ : ∃ dw, d.2 = dw := ⟨_, rfl⟩
    rw [hdw] at HDA HV
    generalize widR ds (ts.map Tg.ct) = ww at *
    go_enter Tryz.func23, Tryz.ntmps23
    go_wp2_with fail
    generalize w.alloc (Obj.cells #[Value.int .i64 (k : Int), Value.slice ta tn tc] 62) = W0 at *
    obtain ⟨b0, hb0⟩ : ∃ b0, w.heap.size = b0 := ⟨_, rfl⟩
    have HB0 := kide hb0
    rw [hb0] at X0
    simp only [hb0]
    clear hb0
    have z0 := X0.out.cell 0
    have z1 := X0.out.cell 1
    have l0 := X0.out.lt
    simp at z0 z1
    have hwr : IntKind.i64.wrap ((dn : Int) - 1) = (dn : Int) - 1 := by rw [IntKind.wrap_i64]; first | omega | (unfold wrap64; omega)
    by_cases hwd : ww = dw
    · have HIN2 : Hid (∀ u, Calls Tryz.prog 47 #[.int .i64 (k : Int), .int .i64 0, .int .i64 ((dn : Int) - 1)] u fun e w' => e = .returned (.bool true) ∧ Below u.heap.size u w') := fun u => (HIN.out u).mono fun e w' h => ⟨h.1, by rw [h.2]; exact Below.refl _ _⟩
      clear HIN
      have heq : (ww == dw) = true := by simp [hwd]
      rw [decide_eq_true hwd] at HV
      clear hwd
      refine wp_region_x (SA := fun _ => False) (SB := fun uu => Below W0.heap.size W0 uu) (k := 999) (by kernel_rfl) ?_
      have hm0 : Hid (Below W0.heap.size W0 W0.drew) := (Below.refl _ _).drew
      generalize W0.drew = m0 at *
      try go_simp
      refine wpAnyX_both (T := fun uu => Below W0.heap.size W0 uu) (i := 0) (v := Value.slice (some ⟨ab, ao, none⟩) dn c) rfl (by kernel_rfl) (by kernel_rfl) (by kernel_rfl) (fun _ _ _ h => by first | exact h | exact h.elim) (by decide) (fun _ h => h.elim) (fun _ h => h) (Sx.behind (by kernel_rfl) hm0.out) (Or.inl ⟨by rfl, fun uu hu => by go_simp⟩) ?_
      try go_simp
      refine wpAnyX_ready (rs := [1]) (by kernel_rfl) (by simp) (AllX.cons rfl (fun K hK => ?_) AllX.nil)
      go_simp
      refine Calls.mono (HDO.out m0 (B0.out.trans (hm0.out.mono B0.out.size))) ?_
      rintro e m1 ⟨rfl, hb⟩
      have hm1 : Hid (Below W0.heap.size W0 m1) := hm0.out.trans (hb.mono hm0.out.size)
      refine hK _ _ (Sx.behind (by kernel_rfl) hm1.out) ?_
      clear hK K hb
      try go_simp
      refine wpAnyX_both (T := fun uu => Below W0.heap.size W0 uu) (i := 2) (v := Value.bool true) rfl (by kernel_rfl) (by kernel_rfl) (by kernel_rfl) (fun _ _ _ h => by first | exact h | exact h.elim) (by decide) (fun _ h => h.elim) (fun _ h => h) (Sx.behind (by kernel_rfl) hm1.out) (Or.inl ⟨by rfl, fun uu hu => by go_simp⟩) ?_
      try go_simp
      refine wpAnyX_both (T := fun uu => Below W0.heap.size W0 uu) (i := 3) (v := Value.pointer (some ⟨b0, 0, none⟩)) rfl (by kernel_rfl) (by kernel_rfl) (by kernel_rfl) (fun _ _ _ h => by first | exact h | exact h.elim) (by decide) (fun _ h => h.elim) (fun _ h => h) (Sx.behind (by kernel_rfl) hm1.out) (Or.inl ⟨by rfl, fun uu hu => by go_simp⟩) ?_
      try go_simp
      refine wpAnyX_both (T := fun uu => Below W0.heap.size W0 uu) (i := 4) (v := Value.int .i64 (k : Int)) rfl (by kernel_rfl) (by kernel_rfl) (by kernel_rfl) (fun _ _ _ h => by first | exact h | exact h.elim) (by decide) (fun _ h => h.elim) (fun _ h => h) (Sx.behind (by kernel_rfl) hm1.out) (Or.inl ⟨by rfl, fun uu hu => by have e0 := (kcell hu b0 0 l0).trans z0; go_simp⟩) ?_
      try go_simp
      refine wpAnyX_both (T := fun uu => Below W0.heap.size W0 uu) (i := 5) (v := Value.slice (some ⟨ab, ao, none⟩) dn c) rfl (by kernel_rfl) (by kernel_rfl) (by kernel_rfl) (fun _ _ _ h => by first | exact h | exact h.elim) (by decide) (fun _ h => h.elim) (fun _ h => h) (Sx.behind (by kernel_rfl) hm1.out) (Or.inl ⟨by rfl, fun uu hu => by go_simp⟩) ?_
      try go_simp
      refine wpAnyX_both (T := fun uu => Below W0.heap.size W0 uu) (i := 6) (v := Value.int .i64 (dn : Int)) rfl (by kernel_rfl) (by kernel_rfl) (by kernel_rfl) (fun _ _ _ h => by first | exact h | exact h.elim) (by decide) (fun _ h => h.elim) (fun _ h => h) (Sx.behind (by kernel_rfl) hm1.out) (Or.inl ⟨by rfl, fun uu hu => by go_simp⟩) ?_
      try go_simp
      refine wpAnyX_both (T := fun uu => Below W0.heap.size W0 uu) (i := 7) (v := Value.int .i64 ((dn : Int) - 1)) rfl (by kernel_rfl) (by kernel_rfl) (by kernel_rfl) (fun _ _ _ h => by first | exact h | exact h.elim) (by decide) (fun _ h => h.elim) (fun _ h => h) (Sx.behind (by kernel_rfl) hm1.out) (Or.inl ⟨by rfl, fun uu hu => by go_simp⟩) ?_
      try go_simp
      refine wpAnyX_ready (rs := [8]) (by kernel_rfl) (by simp) (AllX.cons rfl (fun K hK => ?_) AllX.nil)
      go_simp
      refine Calls.mono (HIN2.out m1) ?_
      rintro e m2 ⟨rfl, hb⟩
      have hm2 : Hid (Below W0.heap.size W0 m2) := hm1.out.trans (hb.mono hm1.out.size)
      refine hK _ _ (Sx.behind (by kernel_rfl) hm2.out) ?_
      clear hK K hb
      try go_simp
      refine wpAnyX_both (T := fun uu => Below W0.heap.size W0 uu) (i := 9) (v := Value.bool true) rfl (by kernel_rfl) (by kernel_rfl) (by kernel_rfl) (fun _ _ _ h => by first | exact h | exact h.elim) (by decide) (fun _ h => h.elim) (fun _ h => h) (Sx.behind (by kernel_rfl) hm2.out) (Or.inl ⟨by rfl, fun uu hu => by go_simp⟩) ?_
      try go_simp
      refine wpAnyX_both (T := fun uu => Below W0.heap.size W0 uu) (i := 10) (v := Value.bool true) rfl (by kernel_rfl) (by kernel_rfl) (by kernel_rfl) (fun _ _ _ h => by first | exact h | exact h.elim) (by decide) (fun _ h => h.elim) (fun _ h => h) (Sx.behind (by kernel_rfl) hm2.out) (Or.inl ⟨by rfl, fun uu hu => by go_simp⟩) ?_
      try go_simp
      refine wpAnyX_both (T := fun uu => Below W0.heap.size W0 uu) (i := 11) (v := Value.slice (some ⟨ab, ao, none⟩) dn c) rfl (by kernel_rfl) (by kernel_rfl) (by kernel_rfl) (fun _ _ _ h => by first | exact h | exact h.elim) (by decide) (fun _ h => h.elim) (fun _ h => h) (Sx.behind (by kernel_rfl) hm2.out) (Or.inl ⟨by rfl, fun uu hu => by go_simp⟩) ?_
      try go_simp
      refine wpAnyX_both (T := fun uu => Below W0.heap.size W0 uu) (i := 12) (v := Value.pointer (some ⟨b0, 1, none⟩)) rfl (by kernel_rfl) (by kernel_rfl) (by kernel_rfl) (fun _ _ _ h => by first | exact h | exact h.elim) (by decide) (fun _ h => h.elim) (fun _ h => h) (Sx.behind (by kernel_rfl) hm2.out) (Or.inl ⟨by rfl, fun uu hu => by go_simp⟩) ?_
      try go_simp
      refine wpAnyX_both (T := fun uu => Below W0.heap.size W0 uu) (i := 13) (v := Value.agg #[Value.slice ta tn tc]) rfl (by kernel_rfl) (by kernel_rfl) (by kernel_rfl) (fun _ _ _ h => by first | exact h | exact h.elim) (by decide) (fun _ h => h.elim) (fun _ h => h) (Sx.behind (by kernel_rfl) hm2.out) (Or.inl ⟨by rfl, fun uu hu => by have e0 := (kcell hu b0 1 l0).trans z1; go_simp⟩) ?_
      try go_simp
      refine wpAnyX_both (T := fun uu => Below W0.heap.size W0 uu) (i := 15) (v := Value.slice (some ⟨ab, ao, none⟩) dn c) rfl (by kernel_rfl) (by kernel_rfl) (by kernel_rfl) (fun _ _ _ h => by first | exact h | exact h.elim) (by decide) (fun _ h => h.elim) (fun _ h => h) (Sx.behind (by kernel_rfl) hm2.out) (Or.inl ⟨by rfl, fun uu hu => by go_simp⟩) ?_
      try go_simp
      refine wpAnyX_both (T := fun uu => Below W0.heap.size W0 uu) (i := 16) (v := Value.pointer (some ⟨b0, 0, none⟩)) rfl (by kernel_rfl) (by kernel_rfl) (by kernel_rfl) (fun _ _ _ h => by first | exact h | exact h.elim) (by decide) (fun _ h => h.elim) (fun _ h => h) (Sx.behind (by kernel_rfl) hm2.out) (Or.inl ⟨by rfl, fun uu hu => by go_simp⟩) ?_
      try go_simp
      refine wpAnyX_both (T := fun uu => Below W0.heap.size W0 uu) (i := 17) (v := Value.int .i64 (k : Int)) rfl (by kernel_rfl) (by kernel_rfl) (by kernel_rfl) (fun _ _ _ h => by first | exact h | exact h.elim) (by decide) (fun _ h => h.elim) (fun _ h => h) (Sx.behind (by kernel_rfl) hm2.out) (Or.inl ⟨by rfl, fun uu hu => by have e0 := (kcell hu b0 0 l0).trans z0; go_simp⟩) ?_
      try go_simp
      refine wpAnyX_both (T := fun uu => Below W0.heap.size W0 uu) (i := 18) (v := Value.pointer (some ⟨ab, ao + k * 2, none⟩)) rfl (by kernel_rfl) (by kernel_rfl) (by kernel_rfl) (fun _ _ _ h => by first | exact h | exact h.elim) (by decide) (fun _ h => h.elim) (fun _ h => h) (Sx.behind (by kernel_rfl) hm2.out) (Or.inl ⟨by rfl, fun uu hu => by go_simp⟩) ?_
      try go_simp
      refine wpAnyX_both (T := fun uu => Below W0.heap.size W0 uu) (i := 19) (v := Value.pointer (some ⟨ab, ao + k * 2 + 1, none⟩)) rfl (by kernel_rfl) (by kernel_rfl) (by kernel_rfl) (fun _ _ _ h => by first | exact h | exact h.elim) (by decide) (fun _ h => h.elim) (fun _ h => h) (Sx.behind (by kernel_rfl) hm2.out) (Or.inl ⟨by rfl, fun uu hu => by go_simp⟩) ?_
      try go_simp
      refine wpAnyX_both (T := fun uu => Below W0.heap.size W0 uu) (i := 20) (v := Value.int .i64 dw) rfl (by kernel_rfl) (by kernel_rfl) (by kernel_rfl) (fun _ _ _ h => by first | exact h | exact h.elim) (by decide) (fun _ h => h.elim) (fun _ h => h) (Sx.behind (by kernel_rfl) hm2.out) (Or.inl ⟨by rfl, fun uu hu => by have e0 := HDA.out uu (B0.out.trans (hu.mono B0.out.size)); go_simp⟩) ?_
      try go_simp
      refine wpAnyX_ready (rs := [14]) (by kernel_rfl) (by simp) (AllX.cons rfl (fun K hK => ?_) AllX.nil)
      go_simp
      refine Calls.mono (HWO.out m2 (B0.out.trans (hm2.out.mono B0.out.size))) ?_
      rintro e m3 ⟨rfl, hb⟩
      have hm3 : Hid (Below W0.heap.size W0 m3) := hm2.out.trans (hb.mono hm2.out.size)
      refine hK _ _ (Sx.behind (by kernel_rfl) hm3.out) ?_
      clear hK K hb
      try go_simp
      refine wpAnyX_both (T := fun uu => Below W0.heap.size W0 uu) (i := 21) (v := Value.bool true) rfl (by kernel_rfl) (by kernel_rfl) (by kernel_rfl) (fun _ _ _ h => by first | exact h | exact h.elim) (by decide) (fun _ h => h.elim) (fun _ h => h) (Sx.behind (by kernel_rfl) hm3.out) (Or.inl ⟨by rfl, fun uu hu => by go_simp⟩) ?_
      try go_simp
      refine wpAnyX_both (T := fun uu => Below W0.heap.size W0 uu) (i := 22) (v := Value.bool true) rfl (by kernel_rfl) (by kernel_rfl) (by kernel_rfl) (fun _ _ _ h => by first | exact h | exact h.elim) (by decide) (fun _ h => h.elim) (fun _ h => h) (Sx.behind (by kernel_rfl) hm3.out) (Or.inl ⟨by rfl, fun uu hu => by go_simp⟩) ?_
      try go_simp
      refine wpAnyX_both (T := fun uu => Below W0.heap.size W0 uu) (i := 23) (v := Value.bool true) rfl (by kernel_rfl) (by kernel_rfl) (by kernel_rfl) (fun _ _ _ h => by first | exact h | exact h.elim) (by decide) (fun _ h => h.elim) (fun _ h => h) (Sx.behind (by kernel_rfl) hm3.out) (Or.inl ⟨by rfl, fun uu hu => by go_simp⟩) ?_
      try go_simp
      refine wpAnyX_done (by kernel_rfl) ?_ _
      go_wp2_with fail
      go_ret
      exact ⟨ret_bool HV.out.symm, B0.out.trans (hm3.out.mono B0.out.size)⟩
    · have HIN2 : Hid (∀ u, Calls Tryz.prog 47 #[.int .i64 (k : Int), .int .i64 0, .int .i64 ((dn : Int) - 1)] u fun e w' => e = .returned (.bool true) ∧ Below u.heap.size u w') := fun u => (HIN.out u).mono fun e w' h => ⟨h.1, by rw [h.2]; exact Below.refl _ _⟩
      clear HIN
      have heq : (ww == dw) = false := by simp [hwd]
      have hne : ¬ ww = dw := hwd
      rw [decide_eq_false hwd] at HV
      clear hwd
      refine wp_region_x (SA := fun _ => False) (SB := fun uu => Below W0.heap.size W0 uu) (k := 999) (by kernel_rfl) ?_
      have hm0 : Hid (Below W0.heap.size W0 W0.drew) := (Below.refl _ _).drew
      generalize W0.drew = m0 at *
      try go_simp
      refine wpAnyX_both (T := fun uu => Below W0.heap.size W0 uu) (i := 0) (v := Value.slice (some ⟨ab, ao, none⟩) dn c) rfl (by kernel_rfl) (by kernel_rfl) (by kernel_rfl) (fun _ _ _ h => by first | exact h | exact h.elim) (by decide) (fun _ h => h.elim) (fun _ h => h) (Sx.behind (by kernel_rfl) hm0.out) (Or.inl ⟨by rfl, fun uu hu => by go_simp⟩) ?_
      try go_simp
      refine wpAnyX_ready (rs := [1]) (by kernel_rfl) (by simp) (AllX.cons rfl (fun K hK => ?_) AllX.nil)
      go_simp
      refine Calls.mono (HDO.out m0 (B0.out.trans (hm0.out.mono B0.out.size))) ?_
      rintro e m1 ⟨rfl, hb⟩
      have hm1 : Hid (Below W0.heap.size W0 m1) := hm0.out.trans (hb.mono hm0.out.size)
      refine hK _ _ (Sx.behind (by kernel_rfl) hm1.out) ?_
      clear hK K hb
      try go_simp
      refine wpAnyX_both (T := fun uu => Below W0.heap.size W0 uu) (i := 2) (v := Value.bool true) rfl (by kernel_rfl) (by kernel_rfl) (by kernel_rfl) (fun _ _ _ h => by first | exact h | exact h.elim) (by decide) (fun _ h => h.elim) (fun _ h => h) (Sx.behind (by kernel_rfl) hm1.out) (Or.inl ⟨by rfl, fun uu hu => by go_simp⟩) ?_
      try go_simp
      refine wpAnyX_both (T := fun uu => Below W0.heap.size W0 uu) (i := 3) (v := Value.pointer (some ⟨b0, 0, none⟩)) rfl (by kernel_rfl) (by kernel_rfl) (by kernel_rfl) (fun _ _ _ h => by first | exact h | exact h.elim) (by decide) (fun _ h => h.elim) (fun _ h => h) (Sx.behind (by kernel_rfl) hm1.out) (Or.inl ⟨by rfl, fun uu hu => by go_simp⟩) ?_
      try go_simp
      refine wpAnyX_both (T := fun uu => Below W0.heap.size W0 uu) (i := 4) (v := Value.int .i64 (k : Int)) rfl (by kernel_rfl) (by kernel_rfl) (by kernel_rfl) (fun _ _ _ h => by first | exact h | exact h.elim) (by decide) (fun _ h => h.elim) (fun _ h => h) (Sx.behind (by kernel_rfl) hm1.out) (Or.inl ⟨by rfl, fun uu hu => by have e0 := (kcell hu b0 0 l0).trans z0; go_simp⟩) ?_
      try go_simp
      refine wpAnyX_both (T := fun uu => Below W0.heap.size W0 uu) (i := 5) (v := Value.slice (some ⟨ab, ao, none⟩) dn c) rfl (by kernel_rfl) (by kernel_rfl) (by kernel_rfl) (fun _ _ _ h => by first | exact h | exact h.elim) (by decide) (fun _ h => h.elim) (fun _ h => h) (Sx.behind (by kernel_rfl) hm1.out) (Or.inl ⟨by rfl, fun uu hu => by go_simp⟩) ?_
      try go_simp
      refine wpAnyX_both (T := fun uu => Below W0.heap.size W0 uu) (i := 6) (v := Value.int .i64 (dn : Int)) rfl (by kernel_rfl) (by kernel_rfl) (by kernel_rfl) (fun _ _ _ h => by first | exact h | exact h.elim) (by decide) (fun _ h => h.elim) (fun _ h => h) (Sx.behind (by kernel_rfl) hm1.out) (Or.inl ⟨by rfl, fun uu hu => by go_simp⟩) ?_
      try go_simp
      refine wpAnyX_both (T := fun uu => Below W0.heap.size W0 uu) (i := 7) (v := Value.int .i64 ((dn : Int) - 1)) rfl (by kernel_rfl) (by kernel_rfl) (by kernel_rfl) (fun _ _ _ h => by first | exact h | exact h.elim) (by decide) (fun _ h => h.elim) (fun _ h => h) (Sx.behind (by kernel_rfl) hm1.out) (Or.inl ⟨by rfl, fun uu hu => by go_simp⟩) ?_
      try go_simp
      refine wpAnyX_ready (rs := [8]) (by kernel_rfl) (by simp) (AllX.cons rfl (fun K hK => ?_) AllX.nil)
      go_simp
      refine Calls.mono (HIN2.out m1) ?_
      rintro e m2 ⟨rfl, hb⟩
      have hm2 : Hid (Below W0.heap.size W0 m2) := hm1.out.trans (hb.mono hm1.out.size)
      refine hK _ _ (Sx.behind (by kernel_rfl) hm2.out) ?_
      clear hK K hb
      try go_simp
      refine wpAnyX_both (T := fun uu => Below W0.heap.size W0 uu) (i := 9) (v := Value.bool true) rfl (by kernel_rfl) (by kernel_rfl) (by kernel_rfl) (fun _ _ _ h => by first | exact h | exact h.elim) (by decide) (fun _ h => h.elim) (fun _ h => h) (Sx.behind (by kernel_rfl) hm2.out) (Or.inl ⟨by rfl, fun uu hu => by go_simp⟩) ?_
      try go_simp
      refine wpAnyX_both (T := fun uu => Below W0.heap.size W0 uu) (i := 10) (v := Value.bool true) rfl (by kernel_rfl) (by kernel_rfl) (by kernel_rfl) (fun _ _ _ h => by first | exact h | exact h.elim) (by decide) (fun _ h => h.elim) (fun _ h => h) (Sx.behind (by kernel_rfl) hm2.out) (Or.inl ⟨by rfl, fun uu hu => by go_simp⟩) ?_
      try go_simp
      refine wpAnyX_both (T := fun uu => Below W0.heap.size W0 uu) (i := 11) (v := Value.slice (some ⟨ab, ao, none⟩) dn c) rfl (by kernel_rfl) (by kernel_rfl) (by kernel_rfl) (fun _ _ _ h => by first | exact h | exact h.elim) (by decide) (fun _ h => h.elim) (fun _ h => h) (Sx.behind (by kernel_rfl) hm2.out) (Or.inl ⟨by rfl, fun uu hu => by go_simp⟩) ?_
      try go_simp
      refine wpAnyX_both (T := fun uu => Below W0.heap.size W0 uu) (i := 12) (v := Value.pointer (some ⟨b0, 1, none⟩)) rfl (by kernel_rfl) (by kernel_rfl) (by kernel_rfl) (fun _ _ _ h => by first | exact h | exact h.elim) (by decide) (fun _ h => h.elim) (fun _ h => h) (Sx.behind (by kernel_rfl) hm2.out) (Or.inl ⟨by rfl, fun uu hu => by go_simp⟩) ?_
      try go_simp
      refine wpAnyX_both (T := fun uu => Below W0.heap.size W0 uu) (i := 13) (v := Value.agg #[Value.slice ta tn tc]) rfl (by kernel_rfl) (by kernel_rfl) (by kernel_rfl) (fun _ _ _ h => by first | exact h | exact h.elim) (by decide) (fun _ h => h.elim) (fun _ h => h) (Sx.behind (by kernel_rfl) hm2.out) (Or.inl ⟨by rfl, fun uu hu => by have e0 := (kcell hu b0 1 l0).trans z1; go_simp⟩) ?_
      try go_simp
      refine wpAnyX_both (T := fun uu => Below W0.heap.size W0 uu) (i := 15) (v := Value.slice (some ⟨ab, ao, none⟩) dn c) rfl (by kernel_rfl) (by kernel_rfl) (by kernel_rfl) (fun _ _ _ h => by first | exact h | exact h.elim) (by decide) (fun _ h => h.elim) (fun _ h => h) (Sx.behind (by kernel_rfl) hm2.out) (Or.inl ⟨by rfl, fun uu hu => by go_simp⟩) ?_
      try go_simp
      refine wpAnyX_both (T := fun uu => Below W0.heap.size W0 uu) (i := 16) (v := Value.pointer (some ⟨b0, 0, none⟩)) rfl (by kernel_rfl) (by kernel_rfl) (by kernel_rfl) (fun _ _ _ h => by first | exact h | exact h.elim) (by decide) (fun _ h => h.elim) (fun _ h => h) (Sx.behind (by kernel_rfl) hm2.out) (Or.inl ⟨by rfl, fun uu hu => by go_simp⟩) ?_
      try go_simp
      refine wpAnyX_both (T := fun uu => Below W0.heap.size W0 uu) (i := 17) (v := Value.int .i64 (k : Int)) rfl (by kernel_rfl) (by kernel_rfl) (by kernel_rfl) (fun _ _ _ h => by first | exact h | exact h.elim) (by decide) (fun _ h => h.elim) (fun _ h => h) (Sx.behind (by kernel_rfl) hm2.out) (Or.inl ⟨by rfl, fun uu hu => by have e0 := (kcell hu b0 0 l0).trans z0; go_simp⟩) ?_
      try go_simp
      refine wpAnyX_both (T := fun uu => Below W0.heap.size W0 uu) (i := 18) (v := Value.pointer (some ⟨ab, ao + k * 2, none⟩)) rfl (by kernel_rfl) (by kernel_rfl) (by kernel_rfl) (fun _ _ _ h => by first | exact h | exact h.elim) (by decide) (fun _ h => h.elim) (fun _ h => h) (Sx.behind (by kernel_rfl) hm2.out) (Or.inl ⟨by rfl, fun uu hu => by go_simp⟩) ?_
      try go_simp
      refine wpAnyX_both (T := fun uu => Below W0.heap.size W0 uu) (i := 19) (v := Value.pointer (some ⟨ab, ao + k * 2 + 1, none⟩)) rfl (by kernel_rfl) (by kernel_rfl) (by kernel_rfl) (fun _ _ _ h => by first | exact h | exact h.elim) (by decide) (fun _ h => h.elim) (fun _ h => h) (Sx.behind (by kernel_rfl) hm2.out) (Or.inl ⟨by rfl, fun uu hu => by go_simp⟩) ?_
      try go_simp
      refine wpAnyX_both (T := fun uu => Below W0.heap.size W0 uu) (i := 20) (v := Value.int .i64 dw) rfl (by kernel_rfl) (by kernel_rfl) (by kernel_rfl) (fun _ _ _ h => by first | exact h | exact h.elim) (by decide) (fun _ h => h.elim) (fun _ h => h) (Sx.behind (by kernel_rfl) hm2.out) (Or.inl ⟨by rfl, fun uu hu => by have e0 := HDA.out uu (B0.out.trans (hu.mono B0.out.size)); go_simp⟩) ?_
      try go_simp
      refine wpAnyX_ready (rs := [14]) (by kernel_rfl) (by simp) (AllX.cons rfl (fun K hK => ?_) AllX.nil)
      go_simp
      refine Calls.mono (HWO.out m2 (B0.out.trans (hm2.out.mono B0.out.size))) ?_
      rintro e m3 ⟨rfl, hb⟩
      have hm3 : Hid (Below W0.heap.size W0 m3) := hm2.out.trans (hb.mono hm2.out.size)
      refine hK _ _ (Sx.behind (by kernel_rfl) hm3.out) ?_
      clear hK K hb
      try go_simp
      refine wpAnyX_both (T := fun uu => Below W0.heap.size W0 uu) (i := 21) (v := Value.bool false) rfl (by kernel_rfl) (by kernel_rfl) (by kernel_rfl) (fun _ _ _ h => by first | exact h | exact h.elim) (by decide) (fun _ h => h.elim) (fun _ h => h) (Sx.behind (by kernel_rfl) hm3.out) (Or.inl ⟨by rfl, fun uu hu => by go_simp⟩) ?_
      try go_simp
      refine wpAnyX_both (T := fun uu => Below W0.heap.size W0 uu) (i := 22) (v := Value.bool false) rfl (by kernel_rfl) (by kernel_rfl) (by kernel_rfl) (fun _ _ _ h => by first | exact h | exact h.elim) (by decide) (fun _ h => h.elim) (fun _ h => h) (Sx.behind (by kernel_rfl) hm3.out) (Or.inl ⟨by rfl, fun uu hu => by go_simp⟩) ?_
      try go_simp
      refine wpAnyX_both (T := fun uu => Below W0.heap.size W0 uu) (i := 23) (v := Value.bool false) rfl (by kernel_rfl) (by kernel_rfl) (by kernel_rfl) (fun _ _ _ h => by first | exact h | exact h.elim) (by decide) (fun _ h => h.elim) (fun _ h => h) (Sx.behind (by kernel_rfl) hm3.out) (Or.inl ⟨by rfl, fun uu hu => by go_simp⟩) ?_
      try go_simp
      refine wpAnyX_done (by kernel_rfl) ?_ _
      go_wp2_with fail
      go_ret
      exact ⟨ret_bool HV.out.symm, B0.out.trans (hm3.out.mono B0.out.size)⟩
  · rw [decide_eq_false (show ¬ (0 ≤ v ∧ v ≤ (dn : Int) - 1) by omega)] at HIN
    have HV : Hid (R = false) := by
      show _ = _
      rw [← HRR.out]
      exact bndOk_out (by simp only [Vg.ct]; have := HDN.out; omega)
    go_enter Tryz.func23, Tryz.ntmps23
    go_wp2_with fail
    generalize w.alloc (Obj.cells #[Value.int .i64 v, Value.slice ta tn tc] 62) = W0 at *
    obtain ⟨b0, hb0⟩ : ∃ b0, w.heap.size = b0 := ⟨_, rfl⟩
    have HB0 := kide hb0
    rw [hb0] at X0
    simp only [hb0]
    clear hb0
    have z0 := X0.out.cell 0
    have z1 := X0.out.cell 1
    have l0 := X0.out.lt
    simp at z0 z1
    have hwr : IntKind.i64.wrap ((dn : Int) - 1) = (dn : Int) - 1 := by rw [IntKind.wrap_i64]; first | omega | (unfold wrap64; omega)
    have HIN2 : Hid (∀ u, Calls Tryz.prog 47 #[.int .i64 v, .int .i64 0, .int .i64 ((dn : Int) - 1)] u fun e w' => e = .returned (.bool false) ∧ Below u.heap.size u w') := fun u => (HIN.out u).mono fun e w' h => ⟨h.1, by rw [h.2]; exact Below.refl _ _⟩
    clear HIN
    refine wp_region_x (SA := fun _ => False) (SB := fun uu => Below W0.heap.size W0 uu) (k := 999) (by kernel_rfl) ?_
    have hm0 : Hid (Below W0.heap.size W0 W0.drew) := (Below.refl _ _).drew
    generalize W0.drew = m0 at *
    try go_simp
    refine wpAnyX_both (T := fun uu => Below W0.heap.size W0 uu) (i := 0) (v := Value.slice a dn c) rfl (by kernel_rfl) (by kernel_rfl) (by kernel_rfl) (fun _ _ _ h => by first | exact h | exact h.elim) (by decide) (fun _ h => h.elim) (fun _ h => h) (Sx.behind (by kernel_rfl) hm0.out) (Or.inl ⟨by rfl, fun uu hu => by go_simp⟩) ?_
    try go_simp
    refine wpAnyX_ready (rs := [1]) (by kernel_rfl) (by simp) (AllX.cons rfl (fun K hK => ?_) AllX.nil)
    go_simp
    refine Calls.mono (HDO.out m0 (B0.out.trans (hm0.out.mono B0.out.size))) ?_
    rintro e m1 ⟨rfl, hb⟩
    have hm1 : Hid (Below W0.heap.size W0 m1) := hm0.out.trans (hb.mono hm0.out.size)
    refine hK _ _ (Sx.behind (by kernel_rfl) hm1.out) ?_
    clear hK K hb
    try go_simp
    refine wpAnyX_both (T := fun uu => Below W0.heap.size W0 uu) (i := 2) (v := Value.bool true) rfl (by kernel_rfl) (by kernel_rfl) (by kernel_rfl) (fun _ _ _ h => by first | exact h | exact h.elim) (by decide) (fun _ h => h.elim) (fun _ h => h) (Sx.behind (by kernel_rfl) hm1.out) (Or.inl ⟨by rfl, fun uu hu => by go_simp⟩) ?_
    try go_simp
    refine wpAnyX_both (T := fun uu => Below W0.heap.size W0 uu) (i := 3) (v := Value.pointer (some ⟨b0, 0, none⟩)) rfl (by kernel_rfl) (by kernel_rfl) (by kernel_rfl) (fun _ _ _ h => by first | exact h | exact h.elim) (by decide) (fun _ h => h.elim) (fun _ h => h) (Sx.behind (by kernel_rfl) hm1.out) (Or.inl ⟨by rfl, fun uu hu => by go_simp⟩) ?_
    try go_simp
    refine wpAnyX_both (T := fun uu => Below W0.heap.size W0 uu) (i := 4) (v := Value.int .i64 v) rfl (by kernel_rfl) (by kernel_rfl) (by kernel_rfl) (fun _ _ _ h => by first | exact h | exact h.elim) (by decide) (fun _ h => h.elim) (fun _ h => h) (Sx.behind (by kernel_rfl) hm1.out) (Or.inl ⟨by rfl, fun uu hu => by have e0 := (kcell hu b0 0 l0).trans z0; go_simp⟩) ?_
    try go_simp
    refine wpAnyX_both (T := fun uu => Below W0.heap.size W0 uu) (i := 5) (v := Value.slice a dn c) rfl (by kernel_rfl) (by kernel_rfl) (by kernel_rfl) (fun _ _ _ h => by first | exact h | exact h.elim) (by decide) (fun _ h => h.elim) (fun _ h => h) (Sx.behind (by kernel_rfl) hm1.out) (Or.inl ⟨by rfl, fun uu hu => by go_simp⟩) ?_
    try go_simp
    refine wpAnyX_both (T := fun uu => Below W0.heap.size W0 uu) (i := 6) (v := Value.int .i64 (dn : Int)) rfl (by kernel_rfl) (by kernel_rfl) (by kernel_rfl) (fun _ _ _ h => by first | exact h | exact h.elim) (by decide) (fun _ h => h.elim) (fun _ h => h) (Sx.behind (by kernel_rfl) hm1.out) (Or.inl ⟨by rfl, fun uu hu => by go_simp⟩) ?_
    try go_simp
    refine wpAnyX_both (T := fun uu => Below W0.heap.size W0 uu) (i := 7) (v := Value.int .i64 ((dn : Int) - 1)) rfl (by kernel_rfl) (by kernel_rfl) (by kernel_rfl) (fun _ _ _ h => by first | exact h | exact h.elim) (by decide) (fun _ h => h.elim) (fun _ h => h) (Sx.behind (by kernel_rfl) hm1.out) (Or.inl ⟨by rfl, fun uu hu => by go_simp⟩) ?_
    try go_simp
    refine wpAnyX_ready (rs := [8]) (by kernel_rfl) (by simp) (AllX.cons rfl (fun K hK => ?_) AllX.nil)
    go_simp
    refine Calls.mono (HIN2.out m1) ?_
    rintro e m2 ⟨rfl, hb⟩
    have hm2 : Hid (Below W0.heap.size W0 m2) := hm1.out.trans (hb.mono hm1.out.size)
    refine hK _ _ (Sx.behind (by kernel_rfl) hm2.out) ?_
    clear hK K hb
    try go_simp
    refine wpAnyX_both (T := fun uu => Below W0.heap.size W0 uu) (i := 9) (v := Value.bool false) rfl (by kernel_rfl) (by kernel_rfl) (by kernel_rfl) (fun _ _ _ h => by first | exact h | exact h.elim) (by decide) (fun _ h => h.elim) (fun _ h => h) (Sx.behind (by kernel_rfl) hm2.out) (Or.inl ⟨by rfl, fun uu hu => by go_simp⟩) ?_
    try go_simp
    refine wpAnyX_both (T := fun uu => Below W0.heap.size W0 uu) (i := 10) (v := Value.bool false) rfl (by kernel_rfl) (by kernel_rfl) (by kernel_rfl) (fun _ _ _ h => by first | exact h | exact h.elim) (by decide) (fun _ h => h.elim) (fun _ h => h) (Sx.behind (by kernel_rfl) hm2.out) (Or.inl ⟨by rfl, fun uu hu => by go_simp⟩) ?_
    try go_simp
    refine wpAnyX_both (T := fun uu => Below W0.heap.size W0 uu) (i := 11) (v := undef) rfl (by kernel_rfl) (by kernel_rfl) (by kernel_rfl) (fun _ _ _ h => by first | exact h | exact h.elim) (by decide) (fun _ h => h.elim) (fun _ h => h) (Sx.behind (by kernel_rfl) hm2.out) (Or.inr ⟨by rfl, rfl⟩) ?_
    try go_simp
    refine wpAnyX_both (T := fun uu => Below W0.heap.size W0 uu) (i := 12) (v := undef) rfl (by kernel_rfl) (by kernel_rfl) (by kernel_rfl) (fun _ _ _ h => by first | exact h | exact h.elim) (by decide) (fun _ h => h.elim) (fun _ h => h) (Sx.behind (by kernel_rfl) hm2.out) (Or.inr ⟨by rfl, rfl⟩) ?_
    try go_simp
    refine wpAnyX_both (T := fun uu => Below W0.heap.size W0 uu) (i := 13) (v := undef) rfl (by kernel_rfl) (by kernel_rfl) (by kernel_rfl) (fun _ _ _ h => by first | exact h | exact h.elim) (by decide) (fun _ h => h.elim) (fun _ h => h) (Sx.behind (by kernel_rfl) hm2.out) (Or.inr ⟨by rfl, rfl⟩) ?_
    try go_simp
    refine wpAnyX_both (T := fun uu => Below W0.heap.size W0 uu) (i := 14) (v := undef) rfl (by kernel_rfl) (by kernel_rfl) (by kernel_rfl) (fun _ _ _ h => by first | exact h | exact h.elim) (by decide) (fun _ h => h.elim) (fun _ h => h) (Sx.behind (by kernel_rfl) hm2.out) (Or.inr ⟨by rfl, rfl⟩) ?_
    try go_simp
    refine wpAnyX_both (T := fun uu => Below W0.heap.size W0 uu) (i := 15) (v := undef) rfl (by kernel_rfl) (by kernel_rfl) (by kernel_rfl) (fun _ _ _ h => by first | exact h | exact h.elim) (by decide) (fun _ h => h.elim) (fun _ h => h) (Sx.behind (by kernel_rfl) hm2.out) (Or.inr ⟨by rfl, rfl⟩) ?_
    try go_simp
    refine wpAnyX_both (T := fun uu => Below W0.heap.size W0 uu) (i := 16) (v := undef) rfl (by kernel_rfl) (by kernel_rfl) (by kernel_rfl) (fun _ _ _ h => by first | exact h | exact h.elim) (by decide) (fun _ h => h.elim) (fun _ h => h) (Sx.behind (by kernel_rfl) hm2.out) (Or.inr ⟨by rfl, rfl⟩) ?_
    try go_simp
    refine wpAnyX_both (T := fun uu => Below W0.heap.size W0 uu) (i := 17) (v := undef) rfl (by kernel_rfl) (by kernel_rfl) (by kernel_rfl) (fun _ _ _ h => by first | exact h | exact h.elim) (by decide) (fun _ h => h.elim) (fun _ h => h) (Sx.behind (by kernel_rfl) hm2.out) (Or.inr ⟨by rfl, rfl⟩) ?_
    try go_simp
    refine wpAnyX_both (T := fun uu => Below W0.heap.size W0 uu) (i := 18) (v := undef) rfl (by kernel_rfl) (by kernel_rfl) (by kernel_rfl) (fun _ _ _ h => by first | exact h | exact h.elim) (by decide) (fun _ h => h.elim) (fun _ h => h) (Sx.behind (by kernel_rfl) hm2.out) (Or.inr ⟨by rfl, rfl⟩) ?_
    try go_simp
    refine wpAnyX_both (T := fun uu => Below W0.heap.size W0 uu) (i := 19) (v := undef) rfl (by kernel_rfl) (by kernel_rfl) (by kernel_rfl) (fun _ _ _ h => by first | exact h | exact h.elim) (by decide) (fun _ h => h.elim) (fun _ h => h) (Sx.behind (by kernel_rfl) hm2.out) (Or.inr ⟨by rfl, rfl⟩) ?_
    try go_simp
    refine wpAnyX_both (T := fun uu => Below W0.heap.size W0 uu) (i := 20) (v := undef) rfl (by kernel_rfl) (by kernel_rfl) (by kernel_rfl) (fun _ _ _ h => by first | exact h | exact h.elim) (by decide) (fun _ h => h.elim) (fun _ h => h) (Sx.behind (by kernel_rfl) hm2.out) (Or.inr ⟨by rfl, rfl⟩) ?_
    try go_simp
    refine wpAnyX_both (T := fun uu => Below W0.heap.size W0 uu) (i := 21) (v := undef) rfl (by kernel_rfl) (by kernel_rfl) (by kernel_rfl) (fun _ _ _ h => by first | exact h | exact h.elim) (by decide) (fun _ h => h.elim) (fun _ h => h) (Sx.behind (by kernel_rfl) hm2.out) (Or.inr ⟨by rfl, rfl⟩) ?_
    try go_simp
    refine wpAnyX_both (T := fun uu => Below W0.heap.size W0 uu) (i := 22) (v := Value.bool false) rfl (by kernel_rfl) (by kernel_rfl) (by kernel_rfl) (fun _ _ _ h => by first | exact h | exact h.elim) (by decide) (fun _ h => h.elim) (fun _ h => h) (Sx.behind (by kernel_rfl) hm2.out) (Or.inl ⟨by rfl, fun uu hu => by go_simp⟩) ?_
    try go_simp
    refine wpAnyX_both (T := fun uu => Below W0.heap.size W0 uu) (i := 23) (v := Value.bool false) rfl (by kernel_rfl) (by kernel_rfl) (by kernel_rfl) (fun _ _ _ h => by first | exact h | exact h.elim) (by decide) (fun _ h => h.elim) (fun _ h => h) (Sx.behind (by kernel_rfl) hm2.out) (Or.inl ⟨by rfl, fun uu hu => by go_simp⟩) ?_
    try go_simp
    refine wpAnyX_done (by kernel_rfl) ?_ _
    go_wp2_with fail
    go_ret
    exact ⟨ret_bool HV.out.symm, B0.out.trans (hm2.out.mono B0.out.size)⟩

set_option maxHeartbeats 1000000 in
theorem bindingOk_any (a : Option Addr) (c dn : Nat) (ds : List Dc) (x : Vg) (w : World) (hr : RdD w a ds) (hx : RdT w x.ta x.ts) (hD : dclR ds = true) (hdn : ds.length = dn) (hG : GF w) :
    Calls Tryz.prog 31 #[.slice a dn c, x.val] w fun e w' => e = .returned (.bool (bndOk ds x.ct)) ∧ Below w.heap.size w w' := by
  obtain ⟨v, ts, ta, tc⟩ := x
  simp only [Vg.val] at hx ⊢
  have HWO := kide (fun u (hu : Below w.heap.size w u) => implWidth_any a ta c tc ts.length ds ts u (hr.later hu) (hx.later hu) rfl (hG.later hu))
  rw [hdn] at HWO
  have B0 : Hid (Below w.heap.size w (w.alloc (Obj.cells #[Value.int .i64 v, Value.slice ta ts.length tc] 62))) := (Below.refl _ _).alloc (Nat.le_refl _) _
  have X0 := kide (Bz.new w #[Value.int .i64 v, Value.slice ta ts.length tc] 62)
  have hl60 := (dclR_iff.1 hD).1
  rw [hdn] at hl60
  obtain ⟨R, hRR⟩ : ∃ R, bndOk ds (Vg.ct ⟨v, ts, ta, tc⟩) = R := ⟨_, rfl⟩
  rw [hRR]
  have HRR := kide hRR
  have HR := kide hr
  have HDN := kide hdn
  have HDC := kide hD
  clear hr hx hD hdn hRR hG
  generalize hsn : ts.length = tn at *
  by_cases hin : 0 ≤ v ∧ v < (dn : Int)
  · obtain ⟨k, rfl⟩ := Int.eq_ofNat_of_zero_le hin.1
    obtain ⟨d, hd⟩ : ∃ d, ds[k]? = some d := ⟨ds[k]'(by have := HDN.out; omega), List.getElem?_eq_getElem _⟩
    have HV : Hid (R = decide (widR ds (ts.map Tg.ct) = d.2)) := by
      show _ = _
      rw [← HRR.out]
      exact bndOk_in rfl hd
    have hd1 : 1 ≤ d.2 := by
      have hq := (dclR_iff.1 HDC.out).2.1 _ (List.mem_of_getElem? hd)
      simp only [dcOk, wOk, Bool.and_eq_true, decide_eq_true_eq] at hq
      omega
    have HDD := kide hd
    clear hd
    have i0 : ((k : Nat) : Int) < (dn : Int) := hin.2
    obtain ⟨-, -, h | ⟨ab, ao, rfl, hcs⟩⟩ := id HR.out
    · have := HDN.out; rw [h] at this; simp at this; omega
    have HDA : Hid (∀ uu, Below w.heap.size w uu → uu.cell? ⟨ab, ao + k * 2 + 1, none⟩ = some (.int .i64 d.2)) := fun uu hu => (kcell hu _ _ (block_lt_of_cell (hcs k d HDD.out).2)).trans (hcs k d HDD.out).2
    clear hcs
    obtain ⟨dw, hdw⟩ : ∃ dw, d.2 = dw := ⟨_, rfl⟩
    rw [hdw] at HDA HV hd1
    generalize widR ds (ts.map Tg.ct) = ww at *
    have z1 := hin.1
    go_enter Tryz.func31, Tryz.ntmps31
    go_wp2_with fail
    refine Calls.mono (HWO.out _ B0.out) ?_
    rintro e w1 ⟨rfl, hb1⟩
    have X1 := kide (X0.out.later hb1)
    have B1 := kide (B0.out.trans (hb1.mono B0.out.size))
    have c0 := X1.out.cell 0
    have c1 := HDA.out w1 B1.out
    simp at c0
    have HD1 := kide hd1
    clear hb1 hd1
    by_cases hwd : ww = dw
    · have h1 : 0 < ww := by have := HD1.out; omega
      have h2 : (ww == dw) = true := by simp [hwd]
      rw [decide_eq_true hwd] at HV
      clear hwd
      go_wp2_with fail
      go_ret
      exact ⟨ret_bool (by rw [HV.out]), B1.out⟩
    · rw [decide_eq_false hwd] at HV
      have h2 : (ww == dw) = false := by simp [hwd]
      have h3 : ¬ ww = dw := hwd
      clear hwd
      by_cases h1 : 0 < ww
      · go_wp2_with fail
        go_ret
        exact ⟨ret_bool (by rw [HV.out]), B1.out⟩
      · go_wp2_with fail
        go_ret
        exact ⟨ret_bool (by rw [HV.out]), B1.out⟩
  · have HV : Hid (R = false) := by
      show _ = _
      rw [← HRR.out]
      exact bndOk_out (by simp only [Vg.ct]; have := HDN.out; omega)
    by_cases h0 : v < 0
    · go_enter Tryz.func31, Tryz.ntmps31
      go_wp2_with fail
      go_ret
      exact ⟨ret_bool HV.out.symm, B0.out⟩
    · have h1 : ¬ v < (dn : Int) := by omega
      go_enter Tryz.func31, Tryz.ntmps31
      go_wp2_with fail
      go_ret
      exact ⟨ret_bool HV.out.symm, B0.out⟩

set_option maxHeartbeats 1000000 in
set_option maxRecDepth 100000 in
/-- The closure that Bind makes: whether a binding is wrong. -/
theorem bndF_any (da : Option Addr) (dn dc bv : Nat) (ds : List Dc) (x : Vg) (w : World) (hc : w.cell? ⟨bv, 0, none⟩ = some (.slice da dn dc)) (hd : RdD w da ds) (hdn : ds.length = dn) (ht : RdT w x.ta x.ts) (hG : GF w) (hD : dclR ds = true) :
    Calls Tryz.prog 30 #[x.val, .pointer (some ⟨bv, 0, none⟩)] w fun e w' => e = .returned (.bool (!bndOk ds x.ct)) ∧ Below w.heap.size w w' := by
  have hbx : Below w.heap.size w (w.alloc (Obj.cells #[Value.int .i64 x.v, Value.slice x.ta x.ts.length x.tc] 62)) := (Below.refl _ _).alloc (Nat.le_refl _) _
  have HC := kide (bindingOk_any da dc dn ds x _ (hd.later hbx) (ht.later hbx) hD hdn (hG.later hbx))
  have c1 := (kcell hbx _ _ (block_lt_of_cell hc)).trans hc
  have HBX := kide hbx
  generalize bndOk ds x.ct = V at *
  clear hbx ht hD hd hdn hG
  obtain ⟨v, ts, ta, tc⟩ := x
  simp only [Vg.val] at *
  generalize ts.length = tn at *
  go_enter Tryz.func30, Tryz.ntmps30
  go_wp2_with fail
  refine Calls.mono HC.out ?_
  rintro e w3 ⟨rfl, hb3⟩
  have B3 := kide (HBX.out.trans (hb3.mono HBX.out.size))
  clear hb3 HC
  go_wp2_with fail
  go_ret
  exact ⟨rfl, B3.out⟩

theorem anyV_step {p : Vg → Bool} {xs : List Vg} {k : Nat} {x : Vg} (h : xs[k]? = some x) : (xs.drop k).any p = (p x || (xs.drop (k + 1)).any p) := by
  have hk : k < xs.length := (List.getElem?_eq_some_iff.1 h).1
  have hx : xs[k] = x := (List.getElem?_eq_some_iff.1 h).2
  rw [List.drop_eq_getElem_cons hk, hx, List.any_cons]

set_option maxHeartbeats 1000000 in
theorem IndexV_any (f : Nat) (hf : ∀ args w, Sem.run Tryz.prog (callFunc f args) w = .ok (.enter f args) w) (cv : Value) (p : Vg → Bool) (a : Option Addr) (c n : Nat) (xs : List Vg) (w : World) (hr : RdV w a xs) (hn : xs.length = n)
    (HF : Hid (∀ u, Below w.heap.size w u → ∀ x ∈ xs, Calls Tryz.prog f #[x.val, cv] u fun e w' => e = .returned (.bool (p x)) ∧ Below u.heap.size u w')) :
    Calls Tryz.prog 55 #[.slice a n c, .func (.func f) #[] #[cv]] w fun e w' => ∃ r : Int, e = .returned (.int .i64 r) ∧ decide (0 ≤ r) = xs.any p ∧ Below w.heap.size w w' := by
  have hlen := hr.1
  rw [hn] at hlen
  have HN := kide hn
  generalize hzz : xs.any p = Z
  have HZ := kide hzz
  clear hn hzz
  go_enter Tryz.func55, Tryz.ntmps55
  go_wp2_with fail
  go_loopw [8] (fun i wr => ∃ k : Nat, k ≤ n ∧ i = .int .i64 (k : Int) ∧ (xs.drop k).any p = Z ∧ Below w.heap.size w wr) (fun i _ => n - (intOf i).toNat)
  case atStart => exact ⟨0, Nat.zero_le _, rfl, by simpa using HZ.out, Below.refl _ _⟩
  case round =>
      obtain ⟨k, hk, rfl, hz, hbel⟩ := hrel
      have HB := kide hbel
      by_cases hlt : k < n
      · obtain ⟨-, h | ⟨b, o, rfl, hc⟩⟩ := hr
        · have := HN.out; subst h; simp at this; omega
        obtain ⟨s, gx⟩ : ∃ y, xs[k]? = some y := ⟨xs[k]'(by rw [HN.out]; exact hlt), List.getElem?_eq_getElem _⟩
        obtain ⟨⟨p0, p1⟩, -⟩ := (hc k _ gx).later hbel
        have HCL := kide (HF.out wr hbel s (List.mem_of_getElem? gx))
        rw [anyV_step gx] at hz
        generalize p s = P1 at *
        obtain ⟨v, ts, ta, tc⟩ := s
        simp only [Vg.val] at p0 p1 HCL
        generalize ts.length = tn at *
        clear hc gx
        have i0 : (k : Int) < (n : Int) := by omega
        clear hbel
        cases P1 with
        | true =>
          have HZ1 : Hid (Z = true) := by show _ = _; rw [← hz]; rfl
          clear hz
          go_wp2_with fail
          refine Calls.mono HCL.out ?_
          rintro e w1 ⟨rfl, hb1⟩
          go_wp2_with fail
          go_ret
          exact ⟨_, rfl, by rw [HZ1.out]; exact decide_eq_true (by omega), HB.out.trans (hb1.mono HB.out.size)⟩
        | false =>
          rw [Bool.false_or] at hz
          have HZ1 := kide hz
          clear hz
          go_wp2_with fail
          refine Calls.mono HCL.out ?_
          rintro e w1 ⟨rfl, hb1⟩
          go_wp2_with fail
          go_roundw
          case rel => exact ⟨k + 1, by omega, by go_num, HZ1.out, HB.out.trans (hb1.mono HB.out.size)⟩
          case measure => simp [intOf]; omega
      · have HZ1 : Hid (Z = false) := by
          show _ = _
          rw [← hz, List.drop_eq_nil_of_le (by have := HN.out; omega)]; rfl
        clear hz hbel
        go_wp2_with fail
        go_ret
        exact ⟨-1, rfl, by rw [HZ1.out]; rfl, HB.out⟩

theorem ContainsV_any (f : Nat) (hf : ∀ args w, Sem.run Tryz.prog (callFunc f args) w = .ok (.enter f args) w) (cv : Value) (p : Vg → Bool) (a : Option Addr) (c n : Nat) (xs : List Vg) (w : World) (hr : RdV w a xs) (hn : xs.length = n)
    (HF : Hid (∀ u, Below w.heap.size w u → ∀ x ∈ xs, Calls Tryz.prog f #[x.val, cv] u fun e w' => e = .returned (.bool (p x)) ∧ Below u.heap.size u w')) :
    Calls Tryz.prog 32 #[.slice a n c, .func (.func f) #[] #[cv]] w fun e w' => e = .returned (.bool (xs.any p)) ∧ Below w.heap.size w w' := by
  have HI := kide (IndexV_any f hf cv p a c n xs w hr hn HF)
  generalize xs.any p = Z at *
  clear hr hn HF
  go_enter Tryz.func32, Tryz.ntmps32
  go_wp2_with fail
  refine Calls.mono HI.out ?_
  rintro e w1 ⟨r, rfl, hr, hb1⟩
  have HR := kide hr
  clear hr
  go_wp2_with fail
  go_ret
  exact ⟨ret_bool HR.out, hb1⟩

end Go.Proofs.YtbpodkdlhjgncaaGreatDoor
