/- The program's site of a node: more of what it is asked. -/
import Derived.Test.YtdlmgndmfphneaaGreatDoorRLC
namespace Go.Proofs.YtdlmgndmfphneaaGreatDoor
set_option linter.unusedVariables false
set_option linter.unusedSimpArgs false
open Go.RowKit

set_option maxHeartbeats 1000000 in
set_option maxRecDepth 100000 in
theorem isWhole_any (na xa wa ka : Option Addr) (N nc xc wn wc kn kc p : Nat) (op vr A B bw : Int) (ws : List Nat) (ks : List Int) (xs : List Tg) (wd : List Int) (w : World) (hS : Si w na xa ka xs wd p ⟨op, vr, A, B, bw, ws, ks⟩) (hN : xs.length = N) (hkn : ks.length = kn) :
    Calls Tryz.prog 50 #[.agg #[.slice na N nc, .slice xa N xc, .int .i64 (p : Int), .int .i64 op, .int .i64 vr, .int .i64 A, .int .i64 B, .int .i64 bw, .slice wa wn wc, .slice ka kn kc]] w (RetY w (fitB (xs.map Tg.ct) wd ⟨op, vr, A, B, bw, ws, ks⟩ 1)) := by
  have B0 : Hid (Below w.heap.size w (w.alloc (Obj.cells #[Value.slice na N nc, Value.slice xa N xc, Value.int .i64 (p : Int), Value.int .i64 op, Value.int .i64 vr, Value.int .i64 A, Value.int .i64 B, Value.int .i64 bw, Value.slice wa wn wc, Value.slice ka kn kc] 65))) := (Below.refl _ _).alloc (Nat.le_refl _) _
  have hpN : p < N := by rw [← hN]; exact hS.lt
  have HW := kide (fun u (hu : Below w.heap.size w u) => siteWidth_any na xa wa ka N nc xc wn wc kn kc p op vr A B bw ws ks xs wd u (hS.later hu) hN hkn)
  by_cases h4 : op = 4
  · obtain ⟨q0, q1, q2, q3⟩ := hS.rn.part h4
    have h1 := hS.rn.one (by simp only []; omega)
    simp only [] at q0 q1 q2 q3 h1
    rw [hkn] at h1
    subst h1
    obtain ⟨kb, ko, j, rfl, ck, ej, hj⟩ := hS.kid (i := 0) (by simp only []; omega)
    simp only [] at ej
    obtain ⟨xb, xo, rfl, cx⟩ := hS.wid (k := j) (by have := hS.lt; omega)
    have lk := block_lt_of_cell ck
    have lx := block_lt_of_cell cx
    rw [Nat.add_zero] at ck
    have hr : Hid (fitB (xs.map Tg.ct) wd ⟨op, vr, A, B, bw, ws, ks⟩ 1 = (wd.getD p 0 == wd.getD j 0)) := by
      show _ = _
      unfold kW at q2
      rw [ej, Int.toNat_natCast] at q2
      rw [fit1, Bool.eq_iff_iff]
      unfold kW
      simp only [ej, Int.toNat_natCast, decide_eq_true_eq, beq_iff_eq]
      omega
    rw [hr.out]
    clear hr
    generalize wd.getD p 0 = W at *
    generalize wd.getD j 0 = V at *
    have i0 : (j : Int) < (N : Int) := by omega
    subst h4
    clear hS hN hkn q0 q1 q2 q3 ej
    have X0 : Hid (Bz (w.alloc (Obj.cells #[Value.slice na N nc, Value.slice (some ⟨xb, xo, none⟩) N xc, Value.int .i64 (p : Int), Value.int .i64 4, Value.int .i64 vr, Value.int .i64 A, Value.int .i64 B, Value.int .i64 bw, Value.slice wa wn wc, Value.slice (some ⟨kb, ko, none⟩) 1 kc] 65)) w.heap.size #[Value.slice na N nc, Value.slice (some ⟨xb, xo, none⟩) N xc, Value.int .i64 (p : Int), Value.int .i64 4, Value.int .i64 vr, Value.int .i64 A, Value.int .i64 B, Value.int .i64 bw, Value.slice wa wn wc, Value.slice (some ⟨kb, ko, none⟩) 1 kc] 65) := Bz.new w _ _
    have hbw := B0.out
    replace ck := (kcell hbw kb (ko) lk).trans ck
    replace cx := (kcell hbw xb (xo + j) lx).trans cx
    have hsz : w.heap.size ≤ (w.alloc (Obj.cells #[Value.slice na N nc, Value.slice (some ⟨xb, xo, none⟩) N xc, Value.int .i64 (p : Int), Value.int .i64 4, Value.int .i64 vr, Value.int .i64 A, Value.int .i64 B, Value.int .i64 bw, Value.slice wa wn wc, Value.slice (some ⟨kb, ko, none⟩) 1 kc] 65)).heap.size := hbw.size
    replace lk := Nat.lt_of_lt_of_le lk hsz
    replace lx := Nat.lt_of_lt_of_le lx hsz
    clear hbw hsz
    go_enter Tryz.func50, Tryz.ntmps50
    go_wp2_with fail
    generalize (w.alloc (Obj.cells #[Value.slice na N nc, Value.slice (some ⟨xb, xo, none⟩) N xc, Value.int .i64 (p : Int), Value.int .i64 4, Value.int .i64 vr, Value.int .i64 A, Value.int .i64 B, Value.int .i64 bw, Value.slice wa wn wc, Value.slice (some ⟨kb, ko, none⟩) 1 kc] 65)) = W0 at *
    obtain ⟨b0, hb0⟩ : ∃ b0, w.heap.size = b0 := ⟨_, rfl⟩
    rw [hb0] at X0
    have HB0 := kide hb0
    try simp only [hb0]
    clear hb0
    have z0 := X0.out.cell 0
    have z1 := X0.out.cell 1
    have z2 := X0.out.cell 2
    have z3 := X0.out.cell 3
    have z4 := X0.out.cell 4
    have z5 := X0.out.cell 5
    have z6 := X0.out.cell 6
    have z7 := X0.out.cell 7
    have z8 := X0.out.cell 8
    have z9 := X0.out.cell 9
    have l0 := X0.out.lt
    simp at z0 z1 z2 z3 z4 z5 z6 z7 z8 z9
    refine wp_region_x (SA := fun _ => False) (SB := fun uu => Below W0.heap.size W0 uu) (k := 999) (by kernel_rfl) ?_
    have hm0 : Hid (Below W0.heap.size W0 W0.drew) := (Below.refl _ _).drew
    generalize W0.drew = m0 at *
    try go_simp
    refine wpAnyX_both (T := fun uu => Below W0.heap.size W0 uu) (i := 0) (v := Value.pointer (some ⟨b0, 3, none⟩)) rfl (by kernel_rfl) (by kernel_rfl) (by kernel_rfl) (fun _ _ _ h => by first | exact h | exact h.elim) (by decide) (fun _ h => h.elim) (fun _ h => h) (Sx.behind (by kernel_rfl) hm0.out) (Or.inl ⟨by rfl, fun uu hu => by go_simp⟩) ?_
    try go_simp
    refine wpAnyX_both (T := fun uu => Below W0.heap.size W0 uu) (i := 1) (v := Value.pointer (some ⟨b0, 3, none⟩)) rfl (by kernel_rfl) (by kernel_rfl) (by kernel_rfl) (fun _ _ _ h => by first | exact h | exact h.elim) (by decide) (fun _ h => h.elim) (fun _ h => h) (Sx.behind (by kernel_rfl) hm0.out) (Or.inl ⟨by rfl, fun uu hu => by go_simp⟩) ?_
    try go_simp
    refine wpAnyX_both (T := fun uu => Below W0.heap.size W0 uu) (i := 2) (v := Value.int .i64 4) rfl (by kernel_rfl) (by kernel_rfl) (by kernel_rfl) (fun _ _ _ h => by first | exact h | exact h.elim) (by decide) (fun _ h => h.elim) (fun _ h => h) (Sx.behind (by kernel_rfl) hm0.out) (Or.inl ⟨by rfl, fun uu hu => by have e0 := (kcell hu b0 (3) l0).trans z3; go_simp⟩) ?_
    try go_simp
    refine wpAnyX_both (T := fun uu => Below W0.heap.size W0 uu) (i := 3) (v := Value.bool true) rfl (by kernel_rfl) (by kernel_rfl) (by kernel_rfl) (fun _ _ _ h => by first | exact h | exact h.elim) (by decide) (fun _ h => h.elim) (fun _ h => h) (Sx.behind (by kernel_rfl) hm0.out) (Or.inl ⟨by rfl, fun uu hu => by go_simp⟩) ?_
    try go_simp
    refine wpAnyX_both (T := fun uu => Below W0.heap.size W0 uu) (i := 4) (v := Value.bool true) rfl (by kernel_rfl) (by kernel_rfl) (by kernel_rfl) (fun _ _ _ h => by first | exact h | exact h.elim) (by decide) (fun _ h => h.elim) (fun _ h => h) (Sx.behind (by kernel_rfl) hm0.out) (Or.inl ⟨by rfl, fun uu hu => by go_simp⟩) ?_
    try go_simp
    refine wpAnyX_both (T := fun uu => Below W0.heap.size W0 uu) (i := 5) (v := Value.agg #[Value.slice na N nc, Value.slice (some ⟨xb, xo, none⟩) N xc, Value.int .i64 (p : Int), Value.int .i64 4, Value.int .i64 vr, Value.int .i64 A, Value.int .i64 B, Value.int .i64 bw, Value.slice wa wn wc, Value.slice (some ⟨kb, ko, none⟩) 1 kc]) rfl (by kernel_rfl) (by kernel_rfl) (by kernel_rfl) (fun _ _ _ h => by first | exact h | exact h.elim) (by decide) (fun _ h => h.elim) (fun _ h => h) (Sx.behind (by kernel_rfl) hm0.out) (Or.inl ⟨by rfl, fun uu hu => by have e0 := (kcell hu b0 (0) l0).trans z0; have e1 := (kcell hu b0 (1) l0).trans z1; have e2 := (kcell hu b0 (2) l0).trans z2; have e3 := (kcell hu b0 (3) l0).trans z3; have e4 := (kcell hu b0 (4) l0).trans z4; have e5 := (kcell hu b0 (5) l0).trans z5; have e6 := (kcell hu b0 (6) l0).trans z6; have e7 := (kcell hu b0 (7) l0).trans z7; have e8 := (kcell hu b0 (8) l0).trans z8; have e9 := (kcell hu b0 (9) l0).trans z9; go_simp⟩) ?_
    try go_simp
    refine wpAnyX_both (T := fun uu => Below W0.heap.size W0 uu) (i := 7) (v := Value.pointer (some ⟨b0, 1, none⟩)) rfl (by kernel_rfl) (by kernel_rfl) (by kernel_rfl) (fun _ _ _ h => by first | exact h | exact h.elim) (by decide) (fun _ h => h.elim) (fun _ h => h) (Sx.behind (by kernel_rfl) hm0.out) (Or.inl ⟨by rfl, fun uu hu => by go_simp⟩) ?_
    try go_simp
    refine wpAnyX_both (T := fun uu => Below W0.heap.size W0 uu) (i := 8) (v := Value.slice (some ⟨xb, xo, none⟩) N xc) rfl (by kernel_rfl) (by kernel_rfl) (by kernel_rfl) (fun _ _ _ h => by first | exact h | exact h.elim) (by decide) (fun _ h => h.elim) (fun _ h => h) (Sx.behind (by kernel_rfl) hm0.out) (Or.inl ⟨by rfl, fun uu hu => by have e0 := (kcell hu b0 (1) l0).trans z1; go_simp⟩) ?_
    try go_simp
    refine wpAnyX_both (T := fun uu => Below W0.heap.size W0 uu) (i := 9) (v := Value.pointer (some ⟨b0, 3, none⟩)) rfl (by kernel_rfl) (by kernel_rfl) (by kernel_rfl) (fun _ _ _ h => by first | exact h | exact h.elim) (by decide) (fun _ h => h.elim) (fun _ h => h) (Sx.behind (by kernel_rfl) hm0.out) (Or.inl ⟨by rfl, fun uu hu => by go_simp⟩) ?_
    try go_simp
    refine wpAnyX_both (T := fun uu => Below W0.heap.size W0 uu) (i := 10) (v := Value.pointer (some ⟨b0, 9, none⟩)) rfl (by kernel_rfl) (by kernel_rfl) (by kernel_rfl) (fun _ _ _ h => by first | exact h | exact h.elim) (by decide) (fun _ h => h.elim) (fun _ h => h) (Sx.behind (by kernel_rfl) hm0.out) (Or.inl ⟨by rfl, fun uu hu => by go_simp⟩) ?_
    try go_simp
    refine wpAnyX_both (T := fun uu => Below W0.heap.size W0 uu) (i := 11) (v := Value.slice (some ⟨kb, ko, none⟩) 1 kc) rfl (by kernel_rfl) (by kernel_rfl) (by kernel_rfl) (fun _ _ _ h => by first | exact h | exact h.elim) (by decide) (fun _ h => h.elim) (fun _ h => h) (Sx.behind (by kernel_rfl) hm0.out) (Or.inl ⟨by rfl, fun uu hu => by have e0 := (kcell hu b0 (9) l0).trans z9; go_simp⟩) ?_
    try go_simp
    refine wpAnyX_both (T := fun uu => Below W0.heap.size W0 uu) (i := 12) (v := Value.pointer (some ⟨kb, ko, none⟩)) rfl (by kernel_rfl) (by kernel_rfl) (by kernel_rfl) (fun _ _ _ h => by first | exact h | exact h.elim) (by decide) (fun _ h => h.elim) (fun _ h => h) (Sx.behind (by kernel_rfl) hm0.out) (Or.inl ⟨by rfl, fun uu hu => by go_simp⟩) ?_
    try go_simp
    refine wpAnyX_both (T := fun uu => Below W0.heap.size W0 uu) (i := 13) (v := Value.int .i64 (j : Int)) rfl (by kernel_rfl) (by kernel_rfl) (by kernel_rfl) (fun _ _ _ h => by first | exact h | exact h.elim) (by decide) (fun _ h => h.elim) (fun _ h => h) (Sx.behind (by kernel_rfl) hm0.out) (Or.inl ⟨by rfl, fun uu hu => by have e0 := (kcell hu kb (ko) lk).trans ck; go_simp⟩) ?_
    try go_simp
    refine wpAnyX_both (T := fun uu => Below W0.heap.size W0 uu) (i := 14) (v := Value.pointer (some ⟨xb, xo + j, none⟩)) rfl (by kernel_rfl) (by kernel_rfl) (by kernel_rfl) (fun _ _ _ h => by first | exact h | exact h.elim) (by decide) (fun _ h => h.elim) (fun _ h => h) (Sx.behind (by kernel_rfl) hm0.out) (Or.inl ⟨by rfl, fun uu hu => by go_simp⟩) ?_
    try go_simp
    refine wpAnyX_both (T := fun uu => Below W0.heap.size W0 uu) (i := 15) (v := Value.int .i64 V) rfl (by kernel_rfl) (by kernel_rfl) (by kernel_rfl) (fun _ _ _ h => by first | exact h | exact h.elim) (by decide) (fun _ h => h.elim) (fun _ h => h) (Sx.behind (by kernel_rfl) hm0.out) (Or.inl ⟨by rfl, fun uu hu => by have e0 := (kcell hu xb (xo + j) lx).trans cx; go_simp⟩) ?_
    try go_simp
    refine wpAnyX_ready (rs := [6]) (by kernel_rfl) (by simp) (AllX.cons rfl (fun K hK => ?_) AllX.nil)
    go_simp
    refine Calls.mono (HW.out m0 (B0.out.trans (hm0.out.mono B0.out.size))) ?_
    rintro e m1 ⟨rfl, hb⟩
    have hm1 : Hid (Below W0.heap.size W0 m1) := hm0.out.trans (hb.mono hm0.out.size)
    refine hK _ _ (Sx.behind (by kernel_rfl) hm1.out) ?_
    clear hK K hb
    try go_simp
    refine wpAnyX_both (T := fun uu => Below W0.heap.size W0 uu) (i := 16) (v := Value.bool (W == V)) rfl (by kernel_rfl) (by kernel_rfl) (by kernel_rfl) (fun _ _ _ h => by first | exact h | exact h.elim) (by decide) (fun _ h => h.elim) (fun _ h => h) (Sx.behind (by kernel_rfl) hm1.out) (Or.inl ⟨by rfl, fun uu hu => by go_simp⟩) ?_
    try go_simp
    refine wpAnyX_both (T := fun uu => Below W0.heap.size W0 uu) (i := 17) (v := Value.bool (W == V)) rfl (by kernel_rfl) (by kernel_rfl) (by kernel_rfl) (fun _ _ _ h => by first | exact h | exact h.elim) (by decide) (fun _ h => h.elim) (fun _ h => h) (Sx.behind (by kernel_rfl) hm1.out) (Or.inl ⟨by rfl, fun uu hu => by go_simp⟩) ?_
    try go_simp
    refine wpAnyX_both (T := fun uu => Below W0.heap.size W0 uu) (i := 18) (v := Value.bool (W == V)) rfl (by kernel_rfl) (by kernel_rfl) (by kernel_rfl) (fun _ _ _ h => by first | exact h | exact h.elim) (by decide) (fun _ h => h.elim) (fun _ h => h) (Sx.behind (by kernel_rfl) hm1.out) (Or.inl ⟨by rfl, fun uu hu => by go_simp⟩) ?_
    try go_simp
    refine wpAnyX_done (by kernel_rfl) ?_ _
    go_wp2_with fail
    go_returns
    exact ⟨rfl, B0.out.trans (hm1.out.mono B0.out.size)⟩
  · have hr : Hid (fitB (xs.map Tg.ct) wd ⟨op, vr, A, B, bw, ws, ks⟩ 1 = false) := by
      show _ = _
      rw [fit1]
      simp [h4]
    rw [hr.out]
    have hn4 : (op == 4) = false := (by simpa using h4)
    clear hS hN hkn hr h4
    go_enter Tryz.func50, Tryz.ntmps50
    go_wp2_with fail
    try (go_quiet (fail); go_wp2_with fail)
    go_returns
    exact ⟨by simp, by first | exact B0.out | exact below_drewN B0.out _⟩

set_option maxHeartbeats 1000000 in
set_option maxRecDepth 100000 in
theorem isFullTurn_any (na xa wa ka : Option Addr) (N nc xc wn wc kn kc p : Nat) (op vr A B bw : Int) (ws : List Nat) (ks : List Int) (xs : List Tg) (wd : List Int) (w : World) (hS : Si w na xa ka xs wd p ⟨op, vr, A, B, bw, ws, ks⟩) (hN : xs.length = N) (hkn : ks.length = kn) :
    Calls Tryz.prog 54 #[.agg #[.slice na N nc, .slice xa N xc, .int .i64 (p : Int), .int .i64 op, .int .i64 vr, .int .i64 A, .int .i64 B, .int .i64 bw, .slice wa wn wc, .slice ka kn kc]] w (RetY w (fitB (xs.map Tg.ct) wd ⟨op, vr, A, B, bw, ws, ks⟩ 3)) := by
  have B0 : Hid (Below w.heap.size w (w.alloc (Obj.cells #[Value.slice na N nc, Value.slice xa N xc, Value.int .i64 (p : Int), Value.int .i64 op, Value.int .i64 vr, Value.int .i64 A, Value.int .i64 B, Value.int .i64 bw, Value.slice wa wn wc, Value.slice ka kn kc] 65))) := (Below.refl _ _).alloc (Nat.le_refl _) _
  have hpN : p < N := by rw [← hN]; exact hS.lt
  have HW := kide (fun u (hu : Below w.heap.size w u) => siteWidth_any na xa wa ka N nc xc wn wc kn kc p op vr A B bw ws ks xs wd u (hS.later hu) hN hkn)
  have HWP : 1 ≤ wd.getD p 0 ∧ wd.getD p 0 ≤ 4096 := wd_pos hS.ww (by have := hS.lt; have := hS.lw; omega)
  by_cases h7 : op = 7
  · subst h7
    have q1 := hS.rn.turn (by simp)
    simp only [] at q1
    have hr : Hid (fitB (xs.map Tg.ct) wd ⟨7, vr, A, B, bw, ws, ks⟩ 3 = (Int.tmod A (wd.getD p 0) == 0)) := by
      show _ = _
      rw [fit3, ← q1.2.2, Bool.eq_iff_iff]
      simp
    rw [hr.out]
    have hd : ∀ W : Int, 1 ≤ W → W ≠ 0 := fun W h => by omega
    have hA := q1.1
    have hA2 := q1.2.1
    obtain ⟨hw1, hw2⟩ := HWP
    clear hr q1
    generalize wd.getD p 0 = W at *
    have hW0 := hd W hw1
    clear hS hN hkn hd hA hA2 hw1 hw2 
    have X0 : Hid (Bz (w.alloc (Obj.cells #[Value.slice na N nc, Value.slice xa N xc, Value.int .i64 (p : Int), Value.int .i64 7, Value.int .i64 vr, Value.int .i64 A, Value.int .i64 B, Value.int .i64 bw, Value.slice wa wn wc, Value.slice ka kn kc] 65)) w.heap.size #[Value.slice na N nc, Value.slice xa N xc, Value.int .i64 (p : Int), Value.int .i64 7, Value.int .i64 vr, Value.int .i64 A, Value.int .i64 B, Value.int .i64 bw, Value.slice wa wn wc, Value.slice ka kn kc] 65) := Bz.new w _ _
    have hbw := B0.out
    have hsz : w.heap.size ≤ (w.alloc (Obj.cells #[Value.slice na N nc, Value.slice xa N xc, Value.int .i64 (p : Int), Value.int .i64 7, Value.int .i64 vr, Value.int .i64 A, Value.int .i64 B, Value.int .i64 bw, Value.slice wa wn wc, Value.slice ka kn kc] 65)).heap.size := hbw.size
    clear hbw hsz
    go_enter Tryz.func54, Tryz.ntmps54
    go_wp2_with fail
    generalize (w.alloc (Obj.cells #[Value.slice na N nc, Value.slice xa N xc, Value.int .i64 (p : Int), Value.int .i64 7, Value.int .i64 vr, Value.int .i64 A, Value.int .i64 B, Value.int .i64 bw, Value.slice wa wn wc, Value.slice ka kn kc] 65)) = W0 at *
    obtain ⟨b0, hb0⟩ : ∃ b0, w.heap.size = b0 := ⟨_, rfl⟩
    rw [hb0] at X0
    have HB0 := kide hb0
    try simp only [hb0]
    clear hb0
    have z0 := X0.out.cell 0
    have z1 := X0.out.cell 1
    have z2 := X0.out.cell 2
    have z3 := X0.out.cell 3
    have z4 := X0.out.cell 4
    have z5 := X0.out.cell 5
    have z6 := X0.out.cell 6
    have z7 := X0.out.cell 7
    have z8 := X0.out.cell 8
    have z9 := X0.out.cell 9
    have l0 := X0.out.lt
    simp at z0 z1 z2 z3 z4 z5 z6 z7 z8 z9
    refine wp_region_x (SA := fun _ => False) (SB := fun uu => Below W0.heap.size W0 uu) (k := 999) (by kernel_rfl) ?_
    have hm0 : Hid (Below W0.heap.size W0 W0.drew) := (Below.refl _ _).drew
    generalize W0.drew = m0 at *
    try go_simp
    refine wpAnyX_both (T := fun uu => Below W0.heap.size W0 uu) (i := 0) (v := Value.pointer (some ⟨b0, 3, none⟩)) rfl (by kernel_rfl) (by kernel_rfl) (by kernel_rfl) (fun _ _ _ h => by first | exact h | exact h.elim) (by decide) (fun _ h => h.elim) (fun _ h => h) (Sx.behind (by kernel_rfl) hm0.out) (Or.inl ⟨by rfl, fun uu hu => by go_simp⟩) ?_
    try go_simp
    refine wpAnyX_both (T := fun uu => Below W0.heap.size W0 uu) (i := 1) (v := Value.pointer (some ⟨b0, 3, none⟩)) rfl (by kernel_rfl) (by kernel_rfl) (by kernel_rfl) (fun _ _ _ h => by first | exact h | exact h.elim) (by decide) (fun _ h => h.elim) (fun _ h => h) (Sx.behind (by kernel_rfl) hm0.out) (Or.inl ⟨by rfl, fun uu hu => by go_simp⟩) ?_
    try go_simp
    refine wpAnyX_both (T := fun uu => Below W0.heap.size W0 uu) (i := 2) (v := Value.int .i64 7) rfl (by kernel_rfl) (by kernel_rfl) (by kernel_rfl) (fun _ _ _ h => by first | exact h | exact h.elim) (by decide) (fun _ h => h.elim) (fun _ h => h) (Sx.behind (by kernel_rfl) hm0.out) (Or.inl ⟨by rfl, fun uu hu => by have e0 := (kcell hu b0 (3) l0).trans z3; go_simp⟩) ?_
    try go_simp
    refine wpAnyX_both (T := fun uu => Below W0.heap.size W0 uu) (i := 3) (v := Value.bool true) rfl (by kernel_rfl) (by kernel_rfl) (by kernel_rfl) (fun _ _ _ h => by first | exact h | exact h.elim) (by decide) (fun _ h => h.elim) (fun _ h => h) (Sx.behind (by kernel_rfl) hm0.out) (Or.inl ⟨by rfl, fun uu hu => by go_simp⟩) ?_
    try go_simp
    refine wpAnyX_both (T := fun uu => Below W0.heap.size W0 uu) (i := 4) (v := Value.bool true) rfl (by kernel_rfl) (by kernel_rfl) (by kernel_rfl) (fun _ _ _ h => by first | exact h | exact h.elim) (by decide) (fun _ h => h.elim) (fun _ h => h) (Sx.behind (by kernel_rfl) hm0.out) (Or.inl ⟨by rfl, fun uu hu => by go_simp⟩) ?_
    try go_simp
    refine wpAnyX_both (T := fun uu => Below W0.heap.size W0 uu) (i := 5) (v := undef) rfl (by kernel_rfl) (by kernel_rfl) (by kernel_rfl) (fun _ _ _ h => by first | exact h | exact h.elim) (by decide) (fun _ h => h.elim) (fun _ h => h) (Sx.behind (by kernel_rfl) hm0.out) (Or.inr ⟨by rfl, rfl⟩) ?_
    try go_simp
    refine wpAnyX_both (T := fun uu => Below W0.heap.size W0 uu) (i := 6) (v := undef) rfl (by kernel_rfl) (by kernel_rfl) (by kernel_rfl) (fun _ _ _ h => by first | exact h | exact h.elim) (by decide) (fun _ h => h.elim) (fun _ h => h) (Sx.behind (by kernel_rfl) hm0.out) (Or.inr ⟨by rfl, rfl⟩) ?_
    try go_simp
    refine wpAnyX_both (T := fun uu => Below W0.heap.size W0 uu) (i := 7) (v := undef) rfl (by kernel_rfl) (by kernel_rfl) (by kernel_rfl) (fun _ _ _ h => by first | exact h | exact h.elim) (by decide) (fun _ h => h.elim) (fun _ h => h) (Sx.behind (by kernel_rfl) hm0.out) (Or.inr ⟨by rfl, rfl⟩) ?_
    try go_simp
    refine wpAnyX_both (T := fun uu => Below W0.heap.size W0 uu) (i := 8) (v := undef) rfl (by kernel_rfl) (by kernel_rfl) (by kernel_rfl) (fun _ _ _ h => by first | exact h | exact h.elim) (by decide) (fun _ h => h.elim) (fun _ h => h) (Sx.behind (by kernel_rfl) hm0.out) (Or.inr ⟨by rfl, rfl⟩) ?_
    try go_simp
    refine wpAnyX_both (T := fun uu => Below W0.heap.size W0 uu) (i := 9) (v := Value.bool true) rfl (by kernel_rfl) (by kernel_rfl) (by kernel_rfl) (fun _ _ _ h => by first | exact h | exact h.elim) (by decide) (fun _ h => h.elim) (fun _ h => h) (Sx.behind (by kernel_rfl) hm0.out) (Or.inl ⟨by rfl, fun uu hu => by go_simp⟩) ?_
    try go_simp
    refine wpAnyX_both (T := fun uu => Below W0.heap.size W0 uu) (i := 10) (v := Value.bool true) rfl (by kernel_rfl) (by kernel_rfl) (by kernel_rfl) (fun _ _ _ h => by first | exact h | exact h.elim) (by decide) (fun _ h => h.elim) (fun _ h => h) (Sx.behind (by kernel_rfl) hm0.out) (Or.inl ⟨by rfl, fun uu hu => by go_simp⟩) ?_
    try go_simp
    refine wpAnyX_both (T := fun uu => Below W0.heap.size W0 uu) (i := 11) (v := Value.pointer (some ⟨b0, 3, none⟩)) rfl (by kernel_rfl) (by kernel_rfl) (by kernel_rfl) (fun _ _ _ h => by first | exact h | exact h.elim) (by decide) (fun _ h => h.elim) (fun _ h => h) (Sx.behind (by kernel_rfl) hm0.out) (Or.inl ⟨by rfl, fun uu hu => by go_simp⟩) ?_
    try go_simp
    refine wpAnyX_both (T := fun uu => Below W0.heap.size W0 uu) (i := 12) (v := Value.pointer (some ⟨b0, 5, none⟩)) rfl (by kernel_rfl) (by kernel_rfl) (by kernel_rfl) (fun _ _ _ h => by first | exact h | exact h.elim) (by decide) (fun _ h => h.elim) (fun _ h => h) (Sx.behind (by kernel_rfl) hm0.out) (Or.inl ⟨by rfl, fun uu hu => by go_simp⟩) ?_
    try go_simp
    refine wpAnyX_both (T := fun uu => Below W0.heap.size W0 uu) (i := 13) (v := Value.int .i64 A) rfl (by kernel_rfl) (by kernel_rfl) (by kernel_rfl) (fun _ _ _ h => by first | exact h | exact h.elim) (by decide) (fun _ h => h.elim) (fun _ h => h) (Sx.behind (by kernel_rfl) hm0.out) (Or.inl ⟨by rfl, fun uu hu => by have e0 := (kcell hu b0 (5) l0).trans z5; go_simp⟩) ?_
    try go_simp
    refine wpAnyX_both (T := fun uu => Below W0.heap.size W0 uu) (i := 14) (v := Value.agg #[Value.slice na N nc, Value.slice xa N xc, Value.int .i64 (p : Int), Value.int .i64 7, Value.int .i64 vr, Value.int .i64 A, Value.int .i64 B, Value.int .i64 bw, Value.slice wa wn wc, Value.slice ka kn kc]) rfl (by kernel_rfl) (by kernel_rfl) (by kernel_rfl) (fun _ _ _ h => by first | exact h | exact h.elim) (by decide) (fun _ h => h.elim) (fun _ h => h) (Sx.behind (by kernel_rfl) hm0.out) (Or.inl ⟨by rfl, fun uu hu => by have e0 := (kcell hu b0 (0) l0).trans z0; have e1 := (kcell hu b0 (1) l0).trans z1; have e2 := (kcell hu b0 (2) l0).trans z2; have e3 := (kcell hu b0 (3) l0).trans z3; have e4 := (kcell hu b0 (4) l0).trans z4; have e5 := (kcell hu b0 (5) l0).trans z5; have e6 := (kcell hu b0 (6) l0).trans z6; have e7 := (kcell hu b0 (7) l0).trans z7; have e8 := (kcell hu b0 (8) l0).trans z8; have e9 := (kcell hu b0 (9) l0).trans z9; go_simp⟩) ?_
    try go_simp
    refine wpAnyX_ready (rs := [15]) (by kernel_rfl) (by simp) (AllX.cons rfl (fun K hK => ?_) AllX.nil)
    go_simp
    refine Calls.mono (HW.out m0 (B0.out.trans (hm0.out.mono B0.out.size))) ?_
    rintro e m1 ⟨rfl, hb⟩
    have hm1 : Hid (Below W0.heap.size W0 m1) := hm0.out.trans (hb.mono hm0.out.size)
    refine hK _ _ (Sx.behind (by kernel_rfl) hm1.out) ?_
    clear hK K hb
    try go_simp
    refine wpAnyX_both (T := fun uu => Below W0.heap.size W0 uu) (i := 16) (v := Value.int .i64 (Int.tmod A W)) rfl (by kernel_rfl) (by kernel_rfl) (by kernel_rfl) (fun _ _ _ h => by first | exact h | exact h.elim) (by decide) (fun _ h => h.elim) (fun _ h => h) (Sx.behind (by kernel_rfl) hm1.out) (Or.inl ⟨by rfl, fun uu hu => by go_simp⟩) ?_
    try go_simp
    refine wpAnyX_both (T := fun uu => Below W0.heap.size W0 uu) (i := 17) (v := Value.bool (Int.tmod A W == 0)) rfl (by kernel_rfl) (by kernel_rfl) (by kernel_rfl) (fun _ _ _ h => by first | exact h | exact h.elim) (by decide) (fun _ h => h.elim) (fun _ h => h) (Sx.behind (by kernel_rfl) hm1.out) (Or.inl ⟨by rfl, fun uu hu => by go_simp⟩) ?_
    try go_simp
    refine wpAnyX_both (T := fun uu => Below W0.heap.size W0 uu) (i := 18) (v := Value.bool (Int.tmod A W == 0)) rfl (by kernel_rfl) (by kernel_rfl) (by kernel_rfl) (fun _ _ _ h => by first | exact h | exact h.elim) (by decide) (fun _ h => h.elim) (fun _ h => h) (Sx.behind (by kernel_rfl) hm1.out) (Or.inl ⟨by rfl, fun uu hu => by go_simp⟩) ?_
    try go_simp
    refine wpAnyX_both (T := fun uu => Below W0.heap.size W0 uu) (i := 19) (v := Value.bool (Int.tmod A W == 0)) rfl (by kernel_rfl) (by kernel_rfl) (by kernel_rfl) (fun _ _ _ h => by first | exact h | exact h.elim) (by decide) (fun _ h => h.elim) (fun _ h => h) (Sx.behind (by kernel_rfl) hm1.out) (Or.inl ⟨by rfl, fun uu hu => by go_simp⟩) ?_
    try go_simp
    refine wpAnyX_done (by kernel_rfl) ?_ _
    go_wp2_with fail
    go_returns
    exact ⟨rfl, B0.out.trans (hm1.out.mono B0.out.size)⟩
  by_cases h8 : op = 8
  · subst h8
    have q1 := hS.rn.turn (by simp)
    simp only [] at q1
    have hr : Hid (fitB (xs.map Tg.ct) wd ⟨8, vr, A, B, bw, ws, ks⟩ 3 = (Int.tmod A (wd.getD p 0) == 0)) := by
      show _ = _
      rw [fit3, ← q1.2.2, Bool.eq_iff_iff]
      simp
    rw [hr.out]
    have hd : ∀ W : Int, 1 ≤ W → W ≠ 0 := fun W h => by omega
    have hA := q1.1
    have hA2 := q1.2.1
    obtain ⟨hw1, hw2⟩ := HWP
    clear hr q1
    generalize wd.getD p 0 = W at *
    have hW0 := hd W hw1
    clear hS hN hkn hd hA hA2 hw1 hw2 h7
    have X0 : Hid (Bz (w.alloc (Obj.cells #[Value.slice na N nc, Value.slice xa N xc, Value.int .i64 (p : Int), Value.int .i64 8, Value.int .i64 vr, Value.int .i64 A, Value.int .i64 B, Value.int .i64 bw, Value.slice wa wn wc, Value.slice ka kn kc] 65)) w.heap.size #[Value.slice na N nc, Value.slice xa N xc, Value.int .i64 (p : Int), Value.int .i64 8, Value.int .i64 vr, Value.int .i64 A, Value.int .i64 B, Value.int .i64 bw, Value.slice wa wn wc, Value.slice ka kn kc] 65) := Bz.new w _ _
    have hbw := B0.out
    have hsz : w.heap.size ≤ (w.alloc (Obj.cells #[Value.slice na N nc, Value.slice xa N xc, Value.int .i64 (p : Int), Value.int .i64 8, Value.int .i64 vr, Value.int .i64 A, Value.int .i64 B, Value.int .i64 bw, Value.slice wa wn wc, Value.slice ka kn kc] 65)).heap.size := hbw.size
    clear hbw hsz
    go_enter Tryz.func54, Tryz.ntmps54
    go_wp2_with fail
    generalize (w.alloc (Obj.cells #[Value.slice na N nc, Value.slice xa N xc, Value.int .i64 (p : Int), Value.int .i64 8, Value.int .i64 vr, Value.int .i64 A, Value.int .i64 B, Value.int .i64 bw, Value.slice wa wn wc, Value.slice ka kn kc] 65)) = W0 at *
    obtain ⟨b0, hb0⟩ : ∃ b0, w.heap.size = b0 := ⟨_, rfl⟩
    rw [hb0] at X0
    have HB0 := kide hb0
    try simp only [hb0]
    clear hb0
    have z0 := X0.out.cell 0
    have z1 := X0.out.cell 1
    have z2 := X0.out.cell 2
    have z3 := X0.out.cell 3
    have z4 := X0.out.cell 4
    have z5 := X0.out.cell 5
    have z6 := X0.out.cell 6
    have z7 := X0.out.cell 7
    have z8 := X0.out.cell 8
    have z9 := X0.out.cell 9
    have l0 := X0.out.lt
    simp at z0 z1 z2 z3 z4 z5 z6 z7 z8 z9
    refine wp_region_x (SA := fun _ => False) (SB := fun uu => Below W0.heap.size W0 uu) (k := 999) (by kernel_rfl) ?_
    have hm0 : Hid (Below W0.heap.size W0 W0.drew) := (Below.refl _ _).drew
    generalize W0.drew = m0 at *
    try go_simp
    refine wpAnyX_both (T := fun uu => Below W0.heap.size W0 uu) (i := 0) (v := Value.pointer (some ⟨b0, 3, none⟩)) rfl (by kernel_rfl) (by kernel_rfl) (by kernel_rfl) (fun _ _ _ h => by first | exact h | exact h.elim) (by decide) (fun _ h => h.elim) (fun _ h => h) (Sx.behind (by kernel_rfl) hm0.out) (Or.inl ⟨by rfl, fun uu hu => by go_simp⟩) ?_
    try go_simp
    refine wpAnyX_both (T := fun uu => Below W0.heap.size W0 uu) (i := 1) (v := Value.pointer (some ⟨b0, 3, none⟩)) rfl (by kernel_rfl) (by kernel_rfl) (by kernel_rfl) (fun _ _ _ h => by first | exact h | exact h.elim) (by decide) (fun _ h => h.elim) (fun _ h => h) (Sx.behind (by kernel_rfl) hm0.out) (Or.inl ⟨by rfl, fun uu hu => by go_simp⟩) ?_
    try go_simp
    refine wpAnyX_both (T := fun uu => Below W0.heap.size W0 uu) (i := 2) (v := Value.int .i64 8) rfl (by kernel_rfl) (by kernel_rfl) (by kernel_rfl) (fun _ _ _ h => by first | exact h | exact h.elim) (by decide) (fun _ h => h.elim) (fun _ h => h) (Sx.behind (by kernel_rfl) hm0.out) (Or.inl ⟨by rfl, fun uu hu => by have e0 := (kcell hu b0 (3) l0).trans z3; go_simp⟩) ?_
    try go_simp
    refine wpAnyX_both (T := fun uu => Below W0.heap.size W0 uu) (i := 3) (v := Value.bool false) rfl (by kernel_rfl) (by kernel_rfl) (by kernel_rfl) (fun _ _ _ h => by first | exact h | exact h.elim) (by decide) (fun _ h => h.elim) (fun _ h => h) (Sx.behind (by kernel_rfl) hm0.out) (Or.inl ⟨by rfl, fun uu hu => by go_simp⟩) ?_
    try go_simp
    refine wpAnyX_both (T := fun uu => Below W0.heap.size W0 uu) (i := 4) (v := Value.bool false) rfl (by kernel_rfl) (by kernel_rfl) (by kernel_rfl) (fun _ _ _ h => by first | exact h | exact h.elim) (by decide) (fun _ h => h.elim) (fun _ h => h) (Sx.behind (by kernel_rfl) hm0.out) (Or.inl ⟨by rfl, fun uu hu => by go_simp⟩) ?_
    try go_simp
    refine wpAnyX_both (T := fun uu => Below W0.heap.size W0 uu) (i := 5) (v := Value.pointer (some ⟨b0, 3, none⟩)) rfl (by kernel_rfl) (by kernel_rfl) (by kernel_rfl) (fun _ _ _ h => by first | exact h | exact h.elim) (by decide) (fun _ h => h.elim) (fun _ h => h) (Sx.behind (by kernel_rfl) hm0.out) (Or.inl ⟨by rfl, fun uu hu => by go_simp⟩) ?_
    try go_simp
    refine wpAnyX_both (T := fun uu => Below W0.heap.size W0 uu) (i := 6) (v := Value.pointer (some ⟨b0, 3, none⟩)) rfl (by kernel_rfl) (by kernel_rfl) (by kernel_rfl) (fun _ _ _ h => by first | exact h | exact h.elim) (by decide) (fun _ h => h.elim) (fun _ h => h) (Sx.behind (by kernel_rfl) hm0.out) (Or.inl ⟨by rfl, fun uu hu => by go_simp⟩) ?_
    try go_simp
    refine wpAnyX_both (T := fun uu => Below W0.heap.size W0 uu) (i := 7) (v := Value.int .i64 8) rfl (by kernel_rfl) (by kernel_rfl) (by kernel_rfl) (fun _ _ _ h => by first | exact h | exact h.elim) (by decide) (fun _ h => h.elim) (fun _ h => h) (Sx.behind (by kernel_rfl) hm0.out) (Or.inl ⟨by rfl, fun uu hu => by have e0 := (kcell hu b0 (3) l0).trans z3; go_simp⟩) ?_
    try go_simp
    refine wpAnyX_both (T := fun uu => Below W0.heap.size W0 uu) (i := 8) (v := Value.bool true) rfl (by kernel_rfl) (by kernel_rfl) (by kernel_rfl) (fun _ _ _ h => by first | exact h | exact h.elim) (by decide) (fun _ h => h.elim) (fun _ h => h) (Sx.behind (by kernel_rfl) hm0.out) (Or.inl ⟨by rfl, fun uu hu => by go_simp⟩) ?_
    try go_simp
    refine wpAnyX_both (T := fun uu => Below W0.heap.size W0 uu) (i := 9) (v := Value.bool true) rfl (by kernel_rfl) (by kernel_rfl) (by kernel_rfl) (fun _ _ _ h => by first | exact h | exact h.elim) (by decide) (fun _ h => h.elim) (fun _ h => h) (Sx.behind (by kernel_rfl) hm0.out) (Or.inl ⟨by rfl, fun uu hu => by go_simp⟩) ?_
    try go_simp
    refine wpAnyX_both (T := fun uu => Below W0.heap.size W0 uu) (i := 10) (v := Value.bool true) rfl (by kernel_rfl) (by kernel_rfl) (by kernel_rfl) (fun _ _ _ h => by first | exact h | exact h.elim) (by decide) (fun _ h => h.elim) (fun _ h => h) (Sx.behind (by kernel_rfl) hm0.out) (Or.inl ⟨by rfl, fun uu hu => by go_simp⟩) ?_
    try go_simp
    refine wpAnyX_both (T := fun uu => Below W0.heap.size W0 uu) (i := 11) (v := Value.pointer (some ⟨b0, 3, none⟩)) rfl (by kernel_rfl) (by kernel_rfl) (by kernel_rfl) (fun _ _ _ h => by first | exact h | exact h.elim) (by decide) (fun _ h => h.elim) (fun _ h => h) (Sx.behind (by kernel_rfl) hm0.out) (Or.inl ⟨by rfl, fun uu hu => by go_simp⟩) ?_
    try go_simp
    refine wpAnyX_both (T := fun uu => Below W0.heap.size W0 uu) (i := 12) (v := Value.pointer (some ⟨b0, 5, none⟩)) rfl (by kernel_rfl) (by kernel_rfl) (by kernel_rfl) (fun _ _ _ h => by first | exact h | exact h.elim) (by decide) (fun _ h => h.elim) (fun _ h => h) (Sx.behind (by kernel_rfl) hm0.out) (Or.inl ⟨by rfl, fun uu hu => by go_simp⟩) ?_
    try go_simp
    refine wpAnyX_both (T := fun uu => Below W0.heap.size W0 uu) (i := 13) (v := Value.int .i64 A) rfl (by kernel_rfl) (by kernel_rfl) (by kernel_rfl) (fun _ _ _ h => by first | exact h | exact h.elim) (by decide) (fun _ h => h.elim) (fun _ h => h) (Sx.behind (by kernel_rfl) hm0.out) (Or.inl ⟨by rfl, fun uu hu => by have e0 := (kcell hu b0 (5) l0).trans z5; go_simp⟩) ?_
    try go_simp
    refine wpAnyX_both (T := fun uu => Below W0.heap.size W0 uu) (i := 14) (v := Value.agg #[Value.slice na N nc, Value.slice xa N xc, Value.int .i64 (p : Int), Value.int .i64 8, Value.int .i64 vr, Value.int .i64 A, Value.int .i64 B, Value.int .i64 bw, Value.slice wa wn wc, Value.slice ka kn kc]) rfl (by kernel_rfl) (by kernel_rfl) (by kernel_rfl) (fun _ _ _ h => by first | exact h | exact h.elim) (by decide) (fun _ h => h.elim) (fun _ h => h) (Sx.behind (by kernel_rfl) hm0.out) (Or.inl ⟨by rfl, fun uu hu => by have e0 := (kcell hu b0 (0) l0).trans z0; have e1 := (kcell hu b0 (1) l0).trans z1; have e2 := (kcell hu b0 (2) l0).trans z2; have e3 := (kcell hu b0 (3) l0).trans z3; have e4 := (kcell hu b0 (4) l0).trans z4; have e5 := (kcell hu b0 (5) l0).trans z5; have e6 := (kcell hu b0 (6) l0).trans z6; have e7 := (kcell hu b0 (7) l0).trans z7; have e8 := (kcell hu b0 (8) l0).trans z8; have e9 := (kcell hu b0 (9) l0).trans z9; go_simp⟩) ?_
    try go_simp
    refine wpAnyX_ready (rs := [15]) (by kernel_rfl) (by simp) (AllX.cons rfl (fun K hK => ?_) AllX.nil)
    go_simp
    refine Calls.mono (HW.out m0 (B0.out.trans (hm0.out.mono B0.out.size))) ?_
    rintro e m1 ⟨rfl, hb⟩
    have hm1 : Hid (Below W0.heap.size W0 m1) := hm0.out.trans (hb.mono hm0.out.size)
    refine hK _ _ (Sx.behind (by kernel_rfl) hm1.out) ?_
    clear hK K hb
    try go_simp
    refine wpAnyX_both (T := fun uu => Below W0.heap.size W0 uu) (i := 16) (v := Value.int .i64 (Int.tmod A W)) rfl (by kernel_rfl) (by kernel_rfl) (by kernel_rfl) (fun _ _ _ h => by first | exact h | exact h.elim) (by decide) (fun _ h => h.elim) (fun _ h => h) (Sx.behind (by kernel_rfl) hm1.out) (Or.inl ⟨by rfl, fun uu hu => by go_simp⟩) ?_
    try go_simp
    refine wpAnyX_both (T := fun uu => Below W0.heap.size W0 uu) (i := 17) (v := Value.bool (Int.tmod A W == 0)) rfl (by kernel_rfl) (by kernel_rfl) (by kernel_rfl) (fun _ _ _ h => by first | exact h | exact h.elim) (by decide) (fun _ h => h.elim) (fun _ h => h) (Sx.behind (by kernel_rfl) hm1.out) (Or.inl ⟨by rfl, fun uu hu => by go_simp⟩) ?_
    try go_simp
    refine wpAnyX_both (T := fun uu => Below W0.heap.size W0 uu) (i := 18) (v := Value.bool (Int.tmod A W == 0)) rfl (by kernel_rfl) (by kernel_rfl) (by kernel_rfl) (fun _ _ _ h => by first | exact h | exact h.elim) (by decide) (fun _ h => h.elim) (fun _ h => h) (Sx.behind (by kernel_rfl) hm1.out) (Or.inl ⟨by rfl, fun uu hu => by go_simp⟩) ?_
    try go_simp
    refine wpAnyX_both (T := fun uu => Below W0.heap.size W0 uu) (i := 19) (v := Value.bool (Int.tmod A W == 0)) rfl (by kernel_rfl) (by kernel_rfl) (by kernel_rfl) (fun _ _ _ h => by first | exact h | exact h.elim) (by decide) (fun _ h => h.elim) (fun _ h => h) (Sx.behind (by kernel_rfl) hm1.out) (Or.inl ⟨by rfl, fun uu hu => by go_simp⟩) ?_
    try go_simp
    refine wpAnyX_done (by kernel_rfl) ?_ _
    go_wp2_with fail
    go_returns
    exact ⟨rfl, B0.out.trans (hm1.out.mono B0.out.size)⟩
  · have hr : Hid (fitB (xs.map Tg.ct) wd ⟨op, vr, A, B, bw, ws, ks⟩ 3 = false) := by
      show _ = _
      rw [fit3]
      simp [h7, h8]
    rw [hr.out]
    have hn7 : (op == 7) = false := (by simpa using h7); have hn8 : (op == 8) = false := (by simpa using h8)
    clear hS hN hkn hr h7 h8
    go_enter Tryz.func54, Tryz.ntmps54
    go_wp2_with fail
    try (go_quiet (fail); go_wp2_with fail)
    go_returns
    exact ⟨by simp, by first | exact B0.out | exact below_drewN B0.out _⟩

set_option maxHeartbeats 1000000 in
set_option maxRecDepth 100000 in
theorem isRightTurn_any (na xa wa ka : Option Addr) (N nc xc wn wc kn kc p : Nat) (op vr A B bw : Int) (ws : List Nat) (ks : List Int) (xs : List Tg) (wd : List Int) (w : World) (hS : Si w na xa ka xs wd p ⟨op, vr, A, B, bw, ws, ks⟩) (hN : xs.length = N) (hkn : ks.length = kn) :
    Calls Tryz.prog 55 #[.agg #[.slice na N nc, .slice xa N xc, .int .i64 (p : Int), .int .i64 op, .int .i64 vr, .int .i64 A, .int .i64 B, .int .i64 bw, .slice wa wn wc, .slice ka kn kc]] w (RetY w (fitB (xs.map Tg.ct) wd ⟨op, vr, A, B, bw, ws, ks⟩ 4)) := by
  have B0 : Hid (Below w.heap.size w (w.alloc (Obj.cells #[Value.slice na N nc, Value.slice xa N xc, Value.int .i64 (p : Int), Value.int .i64 op, Value.int .i64 vr, Value.int .i64 A, Value.int .i64 B, Value.int .i64 bw, Value.slice wa wn wc, Value.slice ka kn kc] 65))) := (Below.refl _ _).alloc (Nat.le_refl _) _
  have hpN : p < N := by rw [← hN]; exact hS.lt
  have HW := kide (fun u (hu : Below w.heap.size w u) => siteWidth_any na xa wa ka N nc xc wn wc kn kc p op vr A B bw ws ks xs wd u (hS.later hu) hN hkn)
  have HWP : 1 ≤ wd.getD p 0 ∧ wd.getD p 0 ≤ 4096 := wd_pos hS.ww (by have := hS.lt; have := hS.lw; omega)
  by_cases h8 : op = 8
  · subst h8
    have q1 := hS.rn.turn (by simp)
    simp only [] at q1
    have hr : Hid (fitB (xs.map Tg.ct) wd ⟨8, vr, A, B, bw, ws, ks⟩ 4 = (Int.tmod A (wd.getD p 0) != 0)) := by
      show _ = _
      rw [fit4, ← q1.2.2, Bool.eq_iff_iff]
      simp
    rw [hr.out]
    have hd : ∀ W : Int, 1 ≤ W → W ≠ 0 := fun W h => by omega
    have hA := q1.1
    have hA2 := q1.2.1
    obtain ⟨hw1, hw2⟩ := HWP
    clear hr q1
    generalize wd.getD p 0 = W at *
    have hW0 := hd W hw1
    clear hS hN hkn hd hA hA2 hw1 hw2 
    have X0 : Hid (Bz (w.alloc (Obj.cells #[Value.slice na N nc, Value.slice xa N xc, Value.int .i64 (p : Int), Value.int .i64 8, Value.int .i64 vr, Value.int .i64 A, Value.int .i64 B, Value.int .i64 bw, Value.slice wa wn wc, Value.slice ka kn kc] 65)) w.heap.size #[Value.slice na N nc, Value.slice xa N xc, Value.int .i64 (p : Int), Value.int .i64 8, Value.int .i64 vr, Value.int .i64 A, Value.int .i64 B, Value.int .i64 bw, Value.slice wa wn wc, Value.slice ka kn kc] 65) := Bz.new w _ _
    have hbw := B0.out
    have hsz : w.heap.size ≤ (w.alloc (Obj.cells #[Value.slice na N nc, Value.slice xa N xc, Value.int .i64 (p : Int), Value.int .i64 8, Value.int .i64 vr, Value.int .i64 A, Value.int .i64 B, Value.int .i64 bw, Value.slice wa wn wc, Value.slice ka kn kc] 65)).heap.size := hbw.size
    clear hbw hsz
    go_enter Tryz.func55, Tryz.ntmps55
    go_wp2_with fail
    generalize (w.alloc (Obj.cells #[Value.slice na N nc, Value.slice xa N xc, Value.int .i64 (p : Int), Value.int .i64 8, Value.int .i64 vr, Value.int .i64 A, Value.int .i64 B, Value.int .i64 bw, Value.slice wa wn wc, Value.slice ka kn kc] 65)) = W0 at *
    obtain ⟨b0, hb0⟩ : ∃ b0, w.heap.size = b0 := ⟨_, rfl⟩
    rw [hb0] at X0
    have HB0 := kide hb0
    try simp only [hb0]
    clear hb0
    have z0 := X0.out.cell 0
    have z1 := X0.out.cell 1
    have z2 := X0.out.cell 2
    have z3 := X0.out.cell 3
    have z4 := X0.out.cell 4
    have z5 := X0.out.cell 5
    have z6 := X0.out.cell 6
    have z7 := X0.out.cell 7
    have z8 := X0.out.cell 8
    have z9 := X0.out.cell 9
    have l0 := X0.out.lt
    simp at z0 z1 z2 z3 z4 z5 z6 z7 z8 z9
    refine wp_region_x (SA := fun _ => False) (SB := fun uu => Below W0.heap.size W0 uu) (k := 999) (by kernel_rfl) ?_
    have hm0 : Hid (Below W0.heap.size W0 W0.drew) := (Below.refl _ _).drew
    generalize W0.drew = m0 at *
    try go_simp
    refine wpAnyX_both (T := fun uu => Below W0.heap.size W0 uu) (i := 0) (v := Value.pointer (some ⟨b0, 3, none⟩)) rfl (by kernel_rfl) (by kernel_rfl) (by kernel_rfl) (fun _ _ _ h => by first | exact h | exact h.elim) (by decide) (fun _ h => h.elim) (fun _ h => h) (Sx.behind (by kernel_rfl) hm0.out) (Or.inl ⟨by rfl, fun uu hu => by go_simp⟩) ?_
    try go_simp
    refine wpAnyX_both (T := fun uu => Below W0.heap.size W0 uu) (i := 1) (v := Value.pointer (some ⟨b0, 3, none⟩)) rfl (by kernel_rfl) (by kernel_rfl) (by kernel_rfl) (fun _ _ _ h => by first | exact h | exact h.elim) (by decide) (fun _ h => h.elim) (fun _ h => h) (Sx.behind (by kernel_rfl) hm0.out) (Or.inl ⟨by rfl, fun uu hu => by go_simp⟩) ?_
    try go_simp
    refine wpAnyX_both (T := fun uu => Below W0.heap.size W0 uu) (i := 2) (v := Value.int .i64 8) rfl (by kernel_rfl) (by kernel_rfl) (by kernel_rfl) (fun _ _ _ h => by first | exact h | exact h.elim) (by decide) (fun _ h => h.elim) (fun _ h => h) (Sx.behind (by kernel_rfl) hm0.out) (Or.inl ⟨by rfl, fun uu hu => by have e0 := (kcell hu b0 (3) l0).trans z3; go_simp⟩) ?_
    try go_simp
    refine wpAnyX_both (T := fun uu => Below W0.heap.size W0 uu) (i := 3) (v := Value.bool true) rfl (by kernel_rfl) (by kernel_rfl) (by kernel_rfl) (fun _ _ _ h => by first | exact h | exact h.elim) (by decide) (fun _ h => h.elim) (fun _ h => h) (Sx.behind (by kernel_rfl) hm0.out) (Or.inl ⟨by rfl, fun uu hu => by go_simp⟩) ?_
    try go_simp
    refine wpAnyX_both (T := fun uu => Below W0.heap.size W0 uu) (i := 4) (v := Value.bool true) rfl (by kernel_rfl) (by kernel_rfl) (by kernel_rfl) (fun _ _ _ h => by first | exact h | exact h.elim) (by decide) (fun _ h => h.elim) (fun _ h => h) (Sx.behind (by kernel_rfl) hm0.out) (Or.inl ⟨by rfl, fun uu hu => by go_simp⟩) ?_
    try go_simp
    refine wpAnyX_both (T := fun uu => Below W0.heap.size W0 uu) (i := 5) (v := Value.pointer (some ⟨b0, 3, none⟩)) rfl (by kernel_rfl) (by kernel_rfl) (by kernel_rfl) (fun _ _ _ h => by first | exact h | exact h.elim) (by decide) (fun _ h => h.elim) (fun _ h => h) (Sx.behind (by kernel_rfl) hm0.out) (Or.inl ⟨by rfl, fun uu hu => by go_simp⟩) ?_
    try go_simp
    refine wpAnyX_both (T := fun uu => Below W0.heap.size W0 uu) (i := 6) (v := Value.pointer (some ⟨b0, 5, none⟩)) rfl (by kernel_rfl) (by kernel_rfl) (by kernel_rfl) (fun _ _ _ h => by first | exact h | exact h.elim) (by decide) (fun _ h => h.elim) (fun _ h => h) (Sx.behind (by kernel_rfl) hm0.out) (Or.inl ⟨by rfl, fun uu hu => by go_simp⟩) ?_
    try go_simp
    refine wpAnyX_both (T := fun uu => Below W0.heap.size W0 uu) (i := 7) (v := Value.int .i64 A) rfl (by kernel_rfl) (by kernel_rfl) (by kernel_rfl) (fun _ _ _ h => by first | exact h | exact h.elim) (by decide) (fun _ h => h.elim) (fun _ h => h) (Sx.behind (by kernel_rfl) hm0.out) (Or.inl ⟨by rfl, fun uu hu => by have e0 := (kcell hu b0 (5) l0).trans z5; go_simp⟩) ?_
    try go_simp
    refine wpAnyX_both (T := fun uu => Below W0.heap.size W0 uu) (i := 8) (v := Value.agg #[Value.slice na N nc, Value.slice xa N xc, Value.int .i64 (p : Int), Value.int .i64 8, Value.int .i64 vr, Value.int .i64 A, Value.int .i64 B, Value.int .i64 bw, Value.slice wa wn wc, Value.slice ka kn kc]) rfl (by kernel_rfl) (by kernel_rfl) (by kernel_rfl) (fun _ _ _ h => by first | exact h | exact h.elim) (by decide) (fun _ h => h.elim) (fun _ h => h) (Sx.behind (by kernel_rfl) hm0.out) (Or.inl ⟨by rfl, fun uu hu => by have e0 := (kcell hu b0 (0) l0).trans z0; have e1 := (kcell hu b0 (1) l0).trans z1; have e2 := (kcell hu b0 (2) l0).trans z2; have e3 := (kcell hu b0 (3) l0).trans z3; have e4 := (kcell hu b0 (4) l0).trans z4; have e5 := (kcell hu b0 (5) l0).trans z5; have e6 := (kcell hu b0 (6) l0).trans z6; have e7 := (kcell hu b0 (7) l0).trans z7; have e8 := (kcell hu b0 (8) l0).trans z8; have e9 := (kcell hu b0 (9) l0).trans z9; go_simp⟩) ?_
    try go_simp
    refine wpAnyX_ready (rs := [9]) (by kernel_rfl) (by simp) (AllX.cons rfl (fun K hK => ?_) AllX.nil)
    go_simp
    refine Calls.mono (HW.out m0 (B0.out.trans (hm0.out.mono B0.out.size))) ?_
    rintro e m1 ⟨rfl, hb⟩
    have hm1 : Hid (Below W0.heap.size W0 m1) := hm0.out.trans (hb.mono hm0.out.size)
    refine hK _ _ (Sx.behind (by kernel_rfl) hm1.out) ?_
    clear hK K hb
    try go_simp
    refine wpAnyX_both (T := fun uu => Below W0.heap.size W0 uu) (i := 10) (v := Value.int .i64 (Int.tmod A W)) rfl (by kernel_rfl) (by kernel_rfl) (by kernel_rfl) (fun _ _ _ h => by first | exact h | exact h.elim) (by decide) (fun _ h => h.elim) (fun _ h => h) (Sx.behind (by kernel_rfl) hm1.out) (Or.inl ⟨by rfl, fun uu hu => by go_simp⟩) ?_
    try go_simp
    refine wpAnyX_both (T := fun uu => Below W0.heap.size W0 uu) (i := 11) (v := Value.bool (Int.tmod A W != 0)) rfl (by kernel_rfl) (by kernel_rfl) (by kernel_rfl) (fun _ _ _ h => by first | exact h | exact h.elim) (by decide) (fun _ h => h.elim) (fun _ h => h) (Sx.behind (by kernel_rfl) hm1.out) (Or.inl ⟨by rfl, fun uu hu => by go_simp⟩) ?_
    try go_simp
    refine wpAnyX_both (T := fun uu => Below W0.heap.size W0 uu) (i := 12) (v := Value.bool (Int.tmod A W != 0)) rfl (by kernel_rfl) (by kernel_rfl) (by kernel_rfl) (fun _ _ _ h => by first | exact h | exact h.elim) (by decide) (fun _ h => h.elim) (fun _ h => h) (Sx.behind (by kernel_rfl) hm1.out) (Or.inl ⟨by rfl, fun uu hu => by go_simp⟩) ?_
    try go_simp
    refine wpAnyX_both (T := fun uu => Below W0.heap.size W0 uu) (i := 13) (v := Value.bool (Int.tmod A W != 0)) rfl (by kernel_rfl) (by kernel_rfl) (by kernel_rfl) (fun _ _ _ h => by first | exact h | exact h.elim) (by decide) (fun _ h => h.elim) (fun _ h => h) (Sx.behind (by kernel_rfl) hm1.out) (Or.inl ⟨by rfl, fun uu hu => by go_simp⟩) ?_
    try go_simp
    refine wpAnyX_done (by kernel_rfl) ?_ _
    go_wp2_with fail
    go_returns
    exact ⟨rfl, B0.out.trans (hm1.out.mono B0.out.size)⟩
  · have hr : Hid (fitB (xs.map Tg.ct) wd ⟨op, vr, A, B, bw, ws, ks⟩ 4 = false) := by
      show _ = _
      rw [fit4]
      simp [h8]
    rw [hr.out]
    have hn8 : (op == 8) = false := (by simpa using h8)
    clear hS hN hkn hr h8
    go_enter Tryz.func55, Tryz.ntmps55
    go_wp2_with fail
    try (go_quiet (fail); go_wp2_with fail)
    go_returns
    exact ⟨by simp, by first | exact B0.out | exact below_drewN B0.out _⟩

end Go.Proofs.YtdlmgndmfphneaaGreatDoor
