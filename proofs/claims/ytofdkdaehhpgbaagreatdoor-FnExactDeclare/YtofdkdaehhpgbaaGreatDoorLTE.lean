/- Literals copied: the program's copyLiterals. -/
import Derived.Test.YtofdkdaehhpgbaaGreatDoorLTB
import Derived.Test.YtofdkdaehhpgbaaGreatDoorCTB
import Derived.Test.YtofdkdaehhpgbaaGreatDoorLTD
import Derived.Test.YtofdkdaehhpgbaaGreatDoorZRX
import Derived.Handy
namespace Go.Proofs.YtofdkdaehhpgbaaGreatDoor
set_option linter.unusedVariables false
set_option linter.unusedSimpArgs false
open Go.RowKit

set_option maxHeartbeats 4000000 in
set_option maxRecDepth 100000 in
theorem copyLits_any (a : Option Addr) (n c : Nat) (xs : List Lg) (w : World) (hr : RdL w a xs) (hn : xs.length = n) (hS : SnL xs) :
    Calls Tryz.prog 57 #[.slice a n c] w (RetCl xs n w) := by
  have hl := hr.1
  rw [hn] at hl
  have HR := kide (fun u (hu : Below w.heap.size w u) => hr.later hu)
  have HN := kide hn
  have HS := kide hS
  clear hr hn hS
  go_enter Tryz.func57, Tryz.ntmps57
  go_wp2_with fail
  go_loopw [3, 8] (fun o q wr => ∃ (j : Nat) (va : Option Addr) (vc : Nat) (l : List Lg) (p : Nat → Nat × Nat), j ≤ n ∧ q = .int .i64 (j : Int) ∧ o = .slice va j vc ∧ l.length = j ∧ Ln w.heap.size wr.heap.size (.slice va j vc) l p wr ∧ l.map Lg.ct = (xs.take j).map Lg.ct ∧ Below w.heap.size w wr) (fun _ q _ => n - (intOf q).toNat)
  case atStart => exact ⟨0, none, 0, [], _, Nat.zero_le _, rfl, rfl, rfl, Ln.nil _ _ _, rfl, Below.refl _ _⟩
  case round =>
    obtain ⟨j, va, vc, l, p, hj, rfl, rfl, hll, ln, hct, kb⟩ := hrel
    have LN := kide ln
    have KB := kide kb
    have HLL := kide hll
    by_cases hlt : j < n
    · have i0 : (j : Int) < (n : Int) := by omega
      obtain ⟨x, gx⟩ : ∃ x, xs[j]? = some x := ⟨xs[j]'(by rw [HN.out]; exact hlt), List.getElem?_eq_getElem _⟩
      obtain ⟨hs1, hs2⟩ := HS.out x (List.mem_of_getElem? gx)
      have hct2 : ∀ y : Lg, y.ct = x.ct → (l ++ [y]).map Lg.ct = (xs.take (j + 1)).map Lg.ct := fun y hy => by
        rw [List.take_add_one, gx, List.map_append, List.map_append, hct]
        simp [hy]
      obtain ⟨b1, o1, rfl, HRN⟩ : ∃ b1 o1, a = some ⟨b1, o1, none⟩ ∧ Hid (∀ u, Below w.heap.size w u → LgAt u b1 (o1 + j * 4) x) := by
        obtain ⟨-, h | ⟨b1, o1, rfl, -⟩⟩ := HR.out w (Below.refl _ _)
        · rw [h] at gx; simp at gx
        · refine ⟨b1, o1, rfl, fun u hu => ?_⟩
          obtain ⟨-, h | ⟨b2, o2, e2, hc⟩⟩ := HR.out u hu
          · rw [h] at gx; simp at gx
          · cases e2
            exact hc j x gx
      obtain ⟨id, q, ss, sa, sc, ts, ta, tc⟩ := x
      simp only [LgAt] at HRN hs1 hs2 hct2
      have HT1 := kide (fun u (hu : Below w.heap.size w u) => (HRN.out u hu).2.1)
      have HT2 := kide (fun u (hu : Below w.heap.size w u) => (HRN.out u hu).2.2.1)
      have HS1 := kide hs1
      have HS2 := kide hs2
      obtain ⟨sn, hsn⟩ : ∃ sn, ss.length = sn := ⟨_, rfl⟩
      obtain ⟨tn, htn⟩ : ∃ tn, ts.length = tn := ⟨_, rfl⟩
      have HSN := kide hsn
      have HTN := kide htn
      rw [hsn, htn] at HRN
      obtain ⟨r0, r1, r2, r3⟩ := (HRN.out wr kb).1
      have HCT := kide hct2
      obtain ⟨Bl, hBl⟩ : ∃ Bl, wr.heap.size = Bl := ⟨_, rfl⟩
      have hbx : Below wr.heap.size wr (wr.alloc (.cells #[Value.int .i64 id, Value.bool q, Value.slice sa sn sc, Value.slice ta tn tc] 68)) := (Below.refl _ _).alloc (Nat.le_refl _) _
      have XB1 := kide (Bz.new wr #[Value.int .i64 id, Value.bool q, Value.slice sa sn sc, Value.slice ta tn tc] (68))
      have KB1 := kide (kb.trans (hbx.mono kb.size))
      have BK1 := kide hbx
      have HZ1 : Hid ((wr.alloc (.cells #[Value.int .i64 id, Value.bool q, Value.slice sa sn sc, Value.slice ta tn tc] 68)).heap.size = Bl + 1) := by show _ = _; rw [← hBl]; simp
      rw [hBl] at XB1
      clear hct2 hct ln kb gx hs1 hs2 hll hsn htn hbx
      go_wp2_with fail
      try simp only [hBl]
      have HBL := kide hBl
      clear r0 r1 r2 r3 hBl
      generalize (wr.alloc (.cells #[Value.int .i64 id, Value.bool q, Value.slice sa sn sc, Value.slice ta tn tc] 68)) = w1 at *
      refine wp_region_x (SA := fun _ => False) (SB := fun uu => uu.cell? ⟨Bl, 0, none⟩ = some (Value.int .i64 id) ∧ uu.cell? ⟨Bl, 1, none⟩ = some (Value.bool q) ∧ uu.cell? ⟨Bl, 2, none⟩ = some (Value.slice sa sn sc) ∧ uu.cell? ⟨Bl, 3, none⟩ = some (Value.slice ta tn tc)) (k := 999) (by kernel_rfl) ?_
      have hbd : Below w1.heap.size w1 w1.drew := (Below.refl _ _).drew
      have XB0 := kide (XB1.out.later hbd)
      have KB0 := kide (KB1.out.trans (hbd.mono KB1.out.size))
      have BK0 := kide (BK1.out.trans (hbd.mono BK1.out.size))
      have HZ0 : Hid (Bl + 1 ≤ w1.drew.heap.size) := by show _ ≤ _; rw [← HZ1.out]; exact hbd.size
      clear hbd XB1 KB1 BK1
      generalize w1.drew = u0 at *
      have c0_0 : u0.cell? ⟨Bl, 0, none⟩ = some (Value.int .i64 id) := XB0.out.cell 0
      have c1_0 : u0.cell? ⟨Bl, 1, none⟩ = some (Value.bool q) := XB0.out.cell 1
      have c2_0 : u0.cell? ⟨Bl, 2, none⟩ = some (Value.slice sa sn sc) := XB0.out.cell 2
      have c3_0 : u0.cell? ⟨Bl, 3, none⟩ = some (Value.slice ta tn tc) := XB0.out.cell 3
      have hs0 : Hid ((fun uu => uu.cell? ⟨Bl, 0, none⟩ = some (Value.int .i64 id) ∧ uu.cell? ⟨Bl, 1, none⟩ = some (Value.bool q) ∧ uu.cell? ⟨Bl, 2, none⟩ = some (Value.slice sa sn sc) ∧ uu.cell? ⟨Bl, 3, none⟩ = some (Value.slice ta tn tc)) u0) := ⟨c0_0, c1_0, c2_0, c3_0⟩
      try go_simp
      refine wpAnyX_both (T := (fun _ => True)) (i := 0) (v := Value.slice va j vc) rfl (by kernel_rfl) (by kernel_rfl) (by kernel_rfl) (fun _ _ _ h => by first | exact h | exact h.elim) (by decide) (fun _ _ => trivial) (fun _ _ => trivial) (Sx.behind (by kernel_rfl) hs0.out) (Or.inl ⟨by rfl, fun uu hu => by go_simp⟩) ?_
      try go_simp
      refine wpAnyX_both (T := (fun _ => True)) (i := 1) (v := Value.pointer (some ⟨Bl, 0, none⟩)) rfl (by kernel_rfl) (by kernel_rfl) (by kernel_rfl) (fun _ _ _ h => by first | exact h | exact h.elim) (by decide) (fun _ _ => trivial) (fun _ _ => trivial) (Sx.behind (by kernel_rfl) hs0.out) (Or.inl ⟨by rfl, fun uu hu => by go_simp⟩) ?_
      try go_simp
      refine wpAnyX_both (T := (fun uu => uu.cell? ⟨Bl, 0, none⟩ = some (Value.int .i64 id) ∧ uu.cell? ⟨Bl, 1, none⟩ = some (Value.bool q) ∧ uu.cell? ⟨Bl, 2, none⟩ = some (Value.slice sa sn sc) ∧ uu.cell? ⟨Bl, 3, none⟩ = some (Value.slice ta tn tc))) (i := 2) (v := Value.int .i64 id) rfl (by kernel_rfl) (by kernel_rfl) (by kernel_rfl) (fun _ _ _ h => by first | exact h | exact h.elim) (by decide) (fun _ h => h.elim) (fun _ h => h) (Sx.behind (by kernel_rfl) hs0.out) (Or.inl ⟨by rfl, fun uu hu => by obtain ⟨e0, e1, e2, e3⟩ := hu; go_simp⟩) ?_
      try go_simp
      refine wpAnyX_both (T := (fun _ => True)) (i := 3) (v := Value.pointer (some ⟨Bl, 1, none⟩)) rfl (by kernel_rfl) (by kernel_rfl) (by kernel_rfl) (fun _ _ _ h => by first | exact h | exact h.elim) (by decide) (fun _ _ => trivial) (fun _ _ => trivial) (Sx.behind (by kernel_rfl) hs0.out) (Or.inl ⟨by rfl, fun uu hu => by go_simp⟩) ?_
      try go_simp
      refine wpAnyX_both (T := (fun uu => uu.cell? ⟨Bl, 0, none⟩ = some (Value.int .i64 id) ∧ uu.cell? ⟨Bl, 1, none⟩ = some (Value.bool q) ∧ uu.cell? ⟨Bl, 2, none⟩ = some (Value.slice sa sn sc) ∧ uu.cell? ⟨Bl, 3, none⟩ = some (Value.slice ta tn tc))) (i := 4) (v := Value.bool q) rfl (by kernel_rfl) (by kernel_rfl) (by kernel_rfl) (fun _ _ _ h => by first | exact h | exact h.elim) (by decide) (fun _ h => h.elim) (fun _ h => h) (Sx.behind (by kernel_rfl) hs0.out) (Or.inl ⟨by rfl, fun uu hu => by obtain ⟨e0, e1, e2, e3⟩ := hu; go_simp⟩) ?_
      try go_simp
      refine wpAnyX_both (T := (fun _ => True)) (i := 5) (v := Value.pointer (some ⟨Bl, 2, none⟩)) rfl (by kernel_rfl) (by kernel_rfl) (by kernel_rfl) (fun _ _ _ h => by first | exact h | exact h.elim) (by decide) (fun _ _ => trivial) (fun _ _ => trivial) (Sx.behind (by kernel_rfl) hs0.out) (Or.inl ⟨by rfl, fun uu hu => by go_simp⟩) ?_
      try go_simp
      refine wpAnyX_both (T := (fun uu => uu.cell? ⟨Bl, 0, none⟩ = some (Value.int .i64 id) ∧ uu.cell? ⟨Bl, 1, none⟩ = some (Value.bool q) ∧ uu.cell? ⟨Bl, 2, none⟩ = some (Value.slice sa sn sc) ∧ uu.cell? ⟨Bl, 3, none⟩ = some (Value.slice ta tn tc))) (i := 6) (v := Value.agg #[Value.slice sa sn sc]) rfl (by kernel_rfl) (by kernel_rfl) (by kernel_rfl) (fun _ _ _ h => by first | exact h | exact h.elim) (by decide) (fun _ h => h.elim) (fun _ h => h) (Sx.behind (by kernel_rfl) hs0.out) (Or.inl ⟨by rfl, fun uu hu => by obtain ⟨e0, e1, e2, e3⟩ := hu; go_simp⟩) ?_
      try go_simp
      refine wpAnyX_both (T := (fun _ => True)) (i := 8) (v := Value.pointer (some ⟨Bl, 3, none⟩)) rfl (by kernel_rfl) (by kernel_rfl) (by kernel_rfl) (fun _ _ _ h => by first | exact h | exact h.elim) (by decide) (fun _ _ => trivial) (fun _ _ => trivial) (Sx.behind (by kernel_rfl) hs0.out) (Or.inl ⟨by rfl, fun uu hu => by go_simp⟩) ?_
      try go_simp
      refine wpAnyX_both (T := (fun uu => uu.cell? ⟨Bl, 0, none⟩ = some (Value.int .i64 id) ∧ uu.cell? ⟨Bl, 1, none⟩ = some (Value.bool q) ∧ uu.cell? ⟨Bl, 2, none⟩ = some (Value.slice sa sn sc) ∧ uu.cell? ⟨Bl, 3, none⟩ = some (Value.slice ta tn tc))) (i := 9) (v := Value.agg #[Value.slice ta tn tc]) rfl (by kernel_rfl) (by kernel_rfl) (by kernel_rfl) (fun _ _ _ h => by first | exact h | exact h.elim) (by decide) (fun _ h => h.elim) (fun _ h => h) (Sx.behind (by kernel_rfl) hs0.out) (Or.inl ⟨by rfl, fun uu hu => by obtain ⟨e0, e1, e2, e3⟩ := hu; go_simp⟩) ?_
      try go_simp
      refine wpAnyX_ready (rs := [7]) (by kernel_rfl) (by simp) (AllX.cons rfl (fun K hK => ?_) AllX.nil)
      go_simp
      refine Calls.mono (copyTerm_any sa sn sc ss _ (HT1.out _ KB0.out) HSN.out HS1.out) ?_
      rintro e u1 ⟨a7, c7, l7, rfl, ts7, hm7, hb7⟩
      have hl7 : l7.length = sn := by have := congrArg List.length hm7; simp at this; rw [this]; exact HSN.out
      have HL7 := kide hl7
      have M7 := kide hm7
      obtain ⟨MD, hMD⟩ : ∃ MD, u1.heap.size = MD := ⟨_, rfl⟩
      have HMD := kide hMD
      have T7_1 : Hid (Tt (Bl + 1) MD (.slice a7 sn c7) l7 u1) := (Tt.of ts7).mono HZ0.out (by rw [hMD]; exact Nat.le_refl _)
      have HZM : Hid (Bl + 1 ≤ MD) := by show _ ≤ _; rw [← hMD]; exact Nat.le_trans HZ0.out hb7.size
      have XB1 := kide (XB0.out.later hb7)
      have KB1 := kide (KB0.out.trans (hb7.mono KB0.out.size))
      have BK1 := kide (BK0.out.trans (hb7.mono BK0.out.size))
      clear ts7 hm7 hb7 hl7 hMD
      have c0_1 : u1.cell? ⟨Bl, 0, none⟩ = some (Value.int .i64 id) := XB1.out.cell 0
      have c1_1 : u1.cell? ⟨Bl, 1, none⟩ = some (Value.bool q) := XB1.out.cell 1
      have c2_1 : u1.cell? ⟨Bl, 2, none⟩ = some (Value.slice sa sn sc) := XB1.out.cell 2
      have c3_1 : u1.cell? ⟨Bl, 3, none⟩ = some (Value.slice ta tn tc) := XB1.out.cell 3
      have hs1 : Hid ((fun uu => uu.cell? ⟨Bl, 0, none⟩ = some (Value.int .i64 id) ∧ uu.cell? ⟨Bl, 1, none⟩ = some (Value.bool q) ∧ uu.cell? ⟨Bl, 2, none⟩ = some (Value.slice sa sn sc) ∧ uu.cell? ⟨Bl, 3, none⟩ = some (Value.slice ta tn tc)) u1) := ⟨c0_1, c1_1, c2_1, c3_1⟩
      refine hK _ _ (Sx.behind (by kernel_rfl) hs1.out) ?_
      clear hK K
      try go_simp
      refine wpAnyX_ready (rs := [10]) (by kernel_rfl) (by simp) (AllX.cons rfl (fun K hK => ?_) AllX.nil)
      go_simp
      refine Calls.mono (copyTerm_any ta tn tc ts _ (HT2.out _ KB1.out) HTN.out HS2.out) ?_
      rintro e u2 ⟨a8, c8, l8, rfl, ts8, hm8, hb8⟩
      have hl8 : l8.length = tn := by have := congrArg List.length hm8; simp at this; rw [this]; exact HTN.out
      have HL8 := kide hl8
      have M8 := kide hm8
      obtain ⟨HI, hHI⟩ : ∃ HI, u2.heap.size = HI := ⟨_, rfl⟩
      have T8_2 : Hid (Tt MD HI (.slice a8 tn c8) l8 u2) := (Tt.of ts8).mono (by rw [HMD.out]; exact Nat.le_refl _) (by rw [hHI]; exact Nat.le_refl _)
      have HZH : Hid (MD ≤ HI) := by show _ ≤ _; rw [← hHI, ← HMD.out]; exact hb8.size
      have T7_2 := kide (T7_1.out.later hb8)
      have HHI := kide hHI
      have XB2 := kide (XB1.out.later hb8)
      have KB2 := kide (KB1.out.trans (hb8.mono KB1.out.size))
      have BK2 := kide (BK1.out.trans (hb8.mono BK1.out.size))
      clear ts8 hm8 hb8 hl8 hHI
      have c0_2 : u2.cell? ⟨Bl, 0, none⟩ = some (Value.int .i64 id) := XB2.out.cell 0
      have c1_2 : u2.cell? ⟨Bl, 1, none⟩ = some (Value.bool q) := XB2.out.cell 1
      have c2_2 : u2.cell? ⟨Bl, 2, none⟩ = some (Value.slice sa sn sc) := XB2.out.cell 2
      have c3_2 : u2.cell? ⟨Bl, 3, none⟩ = some (Value.slice ta tn tc) := XB2.out.cell 3
      have hs2 : Hid ((fun uu => uu.cell? ⟨Bl, 0, none⟩ = some (Value.int .i64 id) ∧ uu.cell? ⟨Bl, 1, none⟩ = some (Value.bool q) ∧ uu.cell? ⟨Bl, 2, none⟩ = some (Value.slice sa sn sc) ∧ uu.cell? ⟨Bl, 3, none⟩ = some (Value.slice ta tn tc)) u2) := ⟨c0_2, c1_2, c2_2, c3_2⟩
      refine hK _ _ (Sx.behind (by kernel_rfl) hs2.out) ?_
      clear hK K
      try go_simp
      refine wpAnyX_both (T := (fun _ => True)) (i := 11) (v := Value.agg #[Value.int .i64 id, Value.bool q, Value.slice a7 sn c7, Value.slice a8 tn c8]) rfl (by kernel_rfl) (by kernel_rfl) (by kernel_rfl) (fun _ _ _ h => by first | exact h | exact h.elim) (by decide) (fun _ _ => trivial) (fun _ _ => trivial) (Sx.behind (by kernel_rfl) hs2.out) (Or.inl ⟨by rfl, fun uu hu => by go_simp⟩) ?_
      try go_simp
      refine wpAnyX_ready (rs := [12]) (by kernel_rfl) (by simp) (AllX.cons rfl (fun K hK => ?_) AllX.nil)
      go_simp
      have hbx : Below u2.heap.size u2 (u2.alloc (.cells #[Value.int .i64 id, Value.bool q, Value.slice a7 sn c7, Value.slice a8 tn c8] 68)) := (Below.refl _ _).alloc (Nat.le_refl _) _
      have XN3 := kide (Bz.new u2 #[Value.int .i64 id, Value.bool q, Value.slice a7 sn c7, Value.slice a8 tn c8] (68))
      have HZN : Hid (HI ≤ (u2.alloc (.cells #[Value.int .i64 id, Value.bool q, Value.slice a7 sn c7, Value.slice a8 tn c8] 68)).heap.size) := by show _ ≤ _; rw [← HHI.out]; exact hbx.size
      have T7_3 := kide (T7_2.out.later hbx)
      have T8_3 := kide (T8_2.out.later hbx)
      have XB3 := kide (XB2.out.later hbx)
      have KB3 := kide (KB2.out.trans (hbx.mono KB2.out.size))
      have BK3 := kide (BK2.out.trans (hbx.mono BK2.out.size))
      obtain ⟨gn, hgn⟩ : ∃ x, u2.heap.size = x := ⟨_, rfl⟩
      rw [hgn] at XN3
      simp only [hgn]
      clear hbx hgn
      generalize u2.alloc (.cells #[Value.int .i64 id, Value.bool q, Value.slice a7 sn c7, Value.slice a8 tn c8] 68) = u3 at *
      have OL3 := kide (LN.out.row.later BK3.out)
      have HCE : Hid (∀ j u, (lgc [(⟨id, q, l7, a7, c7, l8, a8, c8⟩ : Lg)])[j]? = some u → u3.cell? ((⟨gn, 0, none⟩ : Addr).add j) = some u) := fun j u hj => by
        rw [Addr.add_lit, Nat.zero_add]
        match j, hj with
        | 0, hj => simp [lgc] at hj; subst hj; exact XN3.out.cell 0
        | 1, hj => simp [lgc] at hj; subst hj; exact XN3.out.cell 1
        | 2, hj => simp [lgc] at hj; subst hj; rw [HL7.out]; exact XN3.out.cell 2
        | 3, hj => simp [lgc] at hj; subst hj; rw [HL8.out]; exact XN3.out.cell 3
        | j + 4, hj => simp [lgc] at hj
      have c0_3 : u3.cell? ⟨Bl, 0, none⟩ = some (Value.int .i64 id) := XB3.out.cell 0
      have c1_3 : u3.cell? ⟨Bl, 1, none⟩ = some (Value.bool q) := XB3.out.cell 1
      have c2_3 : u3.cell? ⟨Bl, 2, none⟩ = some (Value.slice sa sn sc) := XB3.out.cell 2
      have c3_3 : u3.cell? ⟨Bl, 3, none⟩ = some (Value.slice ta tn tc) := XB3.out.cell 3
      have hs3 : Hid ((fun uu => uu.cell? ⟨Bl, 0, none⟩ = some (Value.int .i64 id) ∧ uu.cell? ⟨Bl, 1, none⟩ = some (Value.bool q) ∧ uu.cell? ⟨Bl, 2, none⟩ = some (Value.slice sa sn sc) ∧ uu.cell? ⟨Bl, 3, none⟩ = some (Value.slice ta tn tc)) u3) := ⟨c0_3, c1_3, c2_3, c3_3⟩
      refine hK _ _ (Sx.behind (by kernel_rfl) hs3.out) ?_
      clear hK K
      try go_simp
      refine wpAnyX_ready (rs := [13]) (by kernel_rfl) (by simp) (AllX.cons rfl (fun K hK => ?_) AllX.nil)
      refine step_appL _ rfl _ _ rfl w.heap.size (.slice va j vc) l [(⟨id, q, l7, a7, c7, l8, a8, c8⟩ : Lg)] (by first | rfl | simp [Act.eval]) OL3.out ⟨gn, 0, none⟩ 1 1 rfl (by first | rfl | simp [Act.eval]) HCE.out (by have := HLL.out; omega) KB3.out.size ?_
      intro v9 u4 ho hg hat
      have LN9 := kide (Ln.app LN.out KB.out.size BK3.out ⟨MD, by have := HBL.out; have := HZM.out; omega, Nat.le_trans HZH.out HZN.out, by rw [HL7.out]; exact T7_3.out.mono (by have := HBL.out; omega) (Nat.le_refl _), by rw [HL8.out]; exact T8_3.out.mono (Nat.le_refl _) HZN.out⟩ hg ho hat)
      have KB4 := kide (Below.grown KB3.out hg KB3.out.size (fun b hb => (OL3.out.lt hb).1))
      have XB4 : Hid (Bz u4 Bl #[Value.int .i64 id, Value.bool q, Value.slice sa sn sc, Value.slice ta tn tc] 68) := (hg.block _ XB3.out.lt (fun e => by have := (LN.out.row.lt e.symm).2; have := HBL.out; omega)).trans XB3.out
      obtain ⟨a9, c9, rfl⟩ := ho.form
      have hll9 : (l ++ [(⟨id, q, l7, a7, c7, l8, a8, c8⟩ : Lg)]).length = j + 1 := by rw [List.length_append, HLL.out]; rfl
      have HL9 := kide hll9
      have HM9 : Hid ((l ++ [(⟨id, q, l7, a7, c7, l8, a8, c8⟩ : Lg)]).map Lg.ct = (xs.take (j + 1)).map Lg.ct) := HCT.out _ (by simp only [Lg.ct]; rw [M7.out, M8.out])
      rw [hll9] at LN9
      rw [hll9]
      clear ho hg hat hll9
      have c0_4 : u4.cell? ⟨Bl, 0, none⟩ = some (Value.int .i64 id) := XB4.out.cell 0
      have c1_4 : u4.cell? ⟨Bl, 1, none⟩ = some (Value.bool q) := XB4.out.cell 1
      have c2_4 : u4.cell? ⟨Bl, 2, none⟩ = some (Value.slice sa sn sc) := XB4.out.cell 2
      have c3_4 : u4.cell? ⟨Bl, 3, none⟩ = some (Value.slice ta tn tc) := XB4.out.cell 3
      have hs4 : Hid ((fun uu => uu.cell? ⟨Bl, 0, none⟩ = some (Value.int .i64 id) ∧ uu.cell? ⟨Bl, 1, none⟩ = some (Value.bool q) ∧ uu.cell? ⟨Bl, 2, none⟩ = some (Value.slice sa sn sc) ∧ uu.cell? ⟨Bl, 3, none⟩ = some (Value.slice ta tn tc)) u4) := ⟨c0_4, c1_4, c2_4, c3_4⟩
      refine hK _ _ (Sx.behind (by kernel_rfl) hs4.out) ?_
      clear hK K
      try go_simp
      refine wpAnyX_both (T := (fun _ => True)) (i := 14) (v := Value.slice a9 (j + 1) c9) rfl (by kernel_rfl) (by kernel_rfl) (by kernel_rfl) (fun _ _ _ h => by first | exact h | exact h.elim) (by decide) (fun _ _ => trivial) (fun _ _ => trivial) (Sx.behind (by kernel_rfl) hs4.out) (Or.inl ⟨by rfl, fun uu hu => by go_simp⟩) ?_
      try go_simp
      refine wpAnyX_done (by kernel_rfl) ?_ _
      go_wp2_with fail
      go_roundw
      case rel => exact ⟨j + 1, a9, c9, l ++ [(⟨id, q, l7, a7, c7, l8, a8, c8⟩ : Lg)], _, by omega, by go_num, rfl, HL9.out, LN9.out, HM9.out, KB4.out⟩
      case measure => simp [intOf]; omega
    · have e : j = n := by omega
      have HCT : Hid (l.map Lg.ct = xs.map Lg.ct) := by show _ = _; rw [hct, List.take_of_length_le (by rw [HN.out]; omega)]
      subst e
      clear hct ln kb hll
      go_wp2_with fail
      go_ret
      exact ⟨va, vc, l, p, rfl, LN.out, HCT.out, KB.out⟩

end Go.Proofs.YtofdkdaehhpgbaaGreatDoor
