/- Drawn graphs. -/
import Derived.Test.YthoiajpbpoglfaaGRKC
import Derived.Deep.LoopGhost
namespace Go.Proofs.Ythoiajpbpoglfaa
set_option linter.unusedVariables false
set_option linter.unusedSimpArgs false
namespace Cp
open Go.RowKit

set_option maxHeartbeats 4000000 in
set_option maxRecDepth 100000 in
theorem graph_any (β : Nat) (a : Option Addr) (c : Nat) (bs : List Nat) (w : World) (hr : Rr w β a c bs) :
    Calls Try.prog 46 #[.pointer (some ⟨β, 0, none⟩)] w (RetGr β a c bs w) := by
  have hβ := hr.lt
  have HR := kide hr
  have HB := kide hβ
  have hbl : bs.length ≤ 4194304 := by obtain ⟨p, _, _, hr, _⟩ := hr; exact hr.1
  have G0 := kide (Gf.start hr)
  clear hr
  go_enter Try.func46, Try.ntmps46
  go_wp2_with fail
  generalize (w.alloc (.cells #[.slice none 0 0, .slice none 0 0] 32)).alloc (.cells #[.slice none 0 0, .slice none 0 0] 32) = w0 at *
  refine Calls.mono (belowJ 3 (by omega) (by omega) G0.out.core.rr) ?_
  rintro e w1 ⟨x1, rfl, hx1, hr1, hd1⟩
  have G1 := kide (G0.out.far HB.out hd1 hr1)
  have s1 := hr1.slG
  have hx13 : x1 ≤ 2 := by omega
  clear hr1 hd1 hx1 G0
  go_wp2_with fail
  refine Calls.mono (belowJ _ (by omega) (by omega) G1.out.core.rr) ?_
  rintro e w2 ⟨x2, rfl, hx2, hr2, hd2⟩
  have G2 := kide (G1.out.far HB.out hd2 hr2)
  obtain ⟨N, hN⟩ : ∃ N : Nat, 1 + (x2 : Int) = (N : Int) := ⟨1 + x2, by omega⟩
  obtain ⟨W0, hW0⟩ : ∃ W0 : Int, 1 + (x1 : Int) = W0 := ⟨_, rfl⟩
  have hNN : 1 ≤ N ∧ N ≤ 7 := by omega
  have hWW : 1 ≤ W0 ∧ W0 ≤ 3 := by omega
  have HNN := kide hNN
  clear hr2 hd2 hx2 G1 s1 hx13
  simp only [hW0]
  go_wp2_with fail
  try simp only [hN]
  clear hN hW0 hNN
  go_loopw [4, 6] (fun v i wr => ∃ (W : Int) (k : Nat) (vw : Value) (ws : List Int), (1 ≤ W ∧ W ≤ 3) ∧ v = .int .i64 W ∧ i = .int .i64 (k : Int) ∧ k ≤ N ∧ ws.length = k ∧ (∀ x ∈ ws, 1 ≤ x ∧ x ≤ 200) ∧ Gf w wr β a c bs vw ws (.slice none 0 0) []) (fun _ i _ => N - (intOf i).toNat)
  case atStart => exact ⟨W0, 0, _, [], hWW, rfl, rfl, Nat.zero_le _, rfl, by simp, G2.out⟩
  case round =>
    obtain ⟨W, k, vw, ws, hW, rfl, rfl, hk, hwl, hwb, hg⟩ := hrel
    have HWB := kide hwb
    have GK := kide hg
    have HWL := kide hwl
    have HW := kide hW
    clear hg hwl hW hwb
    by_cases hlt : k < N
    · have HLT : Hid (k < N) := hlt
      have i0 : (k : Int) < (N : Int) := by omega
      clear hk hlt
      go_wp2_with fail
      refine Calls.mono (once_any 6 (by omega) (by omega) β a c bs _ GK.out.core.rr) ?_
      rintro e w3 ⟨b3, rfl, hr3, hd3⟩
      have G3 := kide (GK.out.far HB.out hd3 hr3)
      clear hr3 hd3 GK
      cases b3 with
      | true =>
        go_wp2_with fail
        refine Calls.mono (belowJ 3 (by omega) (by omega) G3.out.core.rr) ?_
        rintro e w4 ⟨x4, rfl, hx4, hr4, hd4⟩
        have G4 := kide (G3.out.far HB.out hd4 hr4)
        obtain ⟨W', hW'⟩ : ∃ W' : Int, 1 + (x4 : Int) = W' := ⟨_, rfl⟩
        have HW' : Hid (1 ≤ W' ∧ W' ≤ 3) := by show _ ∧ _; omega
        have hW64 : -9223372036854775808 ≤ 1 + (x4 : Int) ∧ 1 + (x4 : Int) ≤ 9223372036854775807 := by omega
        clear hr4 hd4 hx4 G3
        have g0 := G4.out.xb.cell 0
        simp at g0
        have lx := G4.out.xb.lt
        have hsz : w.heap.size ≤ (w4.alloc (Obj.cells #[Value.int .i64 W'] 2)).heap.size := by simp; omega
        have hul : ws.length ≤ 1073741824 := by have := HWL.out; have := HLT.out; have := HNN.out; omega
        go_wp2_with (at_builtin; refine wpList_appI rfl _ _ rfl w.heap.size vw ws W' rfl (G4.out.core.wid.later ((Below.refl _ _).alloc (Nat.le_refl _) _)) _ 1 rfl (by simp) hul hsz ?_)
        intro g5 cap5 w5 hos hg5 _
        have hba : Below w4.heap.size w4 (w4.alloc (Obj.cells #[Value.int .i64 W'] 2)) := (Below.refl _ _).alloc (Nat.le_refl _) _
        obtain ⟨g6, x6⟩ := (G4.out.later hba).addW HR.out hos hg5 (show in64 W' by have := HW'.out; unfold in64; omega)
        rw [HWL.out] at g6
        have G6 := kide g6
        have e0 := x6.cell 0
        have e1 := x6.froz 0
        simp at e0
        have hl6 : (ws ++ [W']).length = k + 1 := by rw [List.length_append]; have := HWL.out; simp; omega
        have HL6 := kide hl6
        rw [HWL.out]
        clear hos hg5 hba g6 x6 hsz hul g0 lx hl6
        go_wp2_with fail
        refine Calls.mono (once_any 16 (by omega) (by omega) β a c bs _ G6.out.core.rr) ?_
        rintro e w7 ⟨b7, rfl, hr7, hd7⟩
        have G7 := kide (G6.out.far HB.out hd7 hr7)
        clear hr7 hd7 G6 G4 e0 e1
        have ik7 : (k : Int) ≤ 6 := by have := HLT.out; have := HNN.out; omega
        cases b7 with
        | false =>
          go_wp2_with fail
          go_roundw
          case rel => exact ⟨W', k + 1, _, ws ++ [W'], HW'.out, rfl, by go_num, HLT.out, HL6.out, wb_app HWB.out (by have := HW'.out; omega), G7.out⟩
          case measure => have := HLT.out; simp only [intOf]; omega
        | true =>
          have g0 := G7.out.xb.cell 0
          simp at g0
          have lx := G7.out.xb.lt
          have i1 : (k : Int) < ((k + 1 : Nat) : Int) := by omega
          have i2 : ¬ ((k : Int) + 1 ≤ (k : Int)) := by omega
          go_wp2_with fail
          refine wp_region_x (SA := fun _ => False) (SB := fun uu => uu.cell? ⟨w.heap.size + 1, 0, none⟩ = some (Value.slice (some ⟨g5, 0, none⟩) (k + 1) cap5) ∧ uu.cell? ⟨w.heap.size + 1, 1, none⟩ = some (Value.slice none 0 0)) (k := 999) (by kernel_rfl) ?_
          have hbd : Below w7.heap.size w7 w7.drew := (Below.refl _ _).drew
          have Gd := kide (G7.out.later hbd)
          have c0_0 : w7.drew.cell? ⟨w.heap.size + 1, 0, none⟩ = some (Value.slice (some ⟨g5, 0, none⟩) (k + 1) cap5) := Gd.out.xb.cell 0
          have c1_0 : w7.drew.cell? ⟨w.heap.size + 1, 1, none⟩ = some (Value.slice none 0 0) := Gd.out.xb.cell 1
          clear hbd g0 lx
          generalize w7.drew = m0 at *
          have hs0 : Hid ((fun uu => uu.cell? ⟨w.heap.size + 1, 0, none⟩ = some (Value.slice (some ⟨g5, 0, none⟩) (k + 1) cap5) ∧ uu.cell? ⟨w.heap.size + 1, 1, none⟩ = some (Value.slice none 0 0)) m0) := ⟨c0_0, c1_0⟩
          try go_simp
          refine wpAnyX_both (T := (fun _ => True)) (i := 0) (v := Value.pointer (some ⟨w.heap.size + 1, 0, none⟩)) rfl (by kernel_rfl) (by kernel_rfl) (by kernel_rfl) (fun _ _ _ h => by first | exact h | exact h.elim) (by decide) (fun _ _ => trivial) (fun _ _ => trivial) (Sx.behind (by kernel_rfl) hs0.out) (Or.inl ⟨by rfl, fun uu hu => by go_simp⟩) ?_
          try go_simp
          refine wpAnyX_both (T := (fun uu => uu.cell? ⟨w.heap.size + 1, 0, none⟩ = some (Value.slice (some ⟨g5, 0, none⟩) (k + 1) cap5) ∧ uu.cell? ⟨w.heap.size + 1, 1, none⟩ = some (Value.slice none 0 0))) (i := 1) (v := Value.slice (some ⟨g5, 0, none⟩) (k + 1) cap5) rfl (by kernel_rfl) (by kernel_rfl) (by kernel_rfl) (fun _ _ _ h => by first | exact h | exact h.elim) (by decide) (fun _ h => h.elim) (fun _ h => h) (Sx.behind (by kernel_rfl) hs0.out) (Or.inl ⟨by rfl, fun uu hu => by obtain ⟨e0, e1⟩ := hu; go_simp⟩) ?_
          try go_simp
          refine wpAnyX_both (T := (fun _ => True)) (i := 2) (v := Value.int .i64 (k : Int)) rfl (by kernel_rfl) (by kernel_rfl) (by kernel_rfl) (fun _ _ _ h => by first | exact h | exact h.elim) (by decide) (fun _ _ => trivial) (fun _ _ => trivial) (Sx.behind (by kernel_rfl) hs0.out) (Or.inl ⟨by rfl, fun uu hu => by go_simp⟩) ?_
          try go_simp
          refine wpAnyX_both (T := (fun _ => True)) (i := 3) (v := Value.pointer (some ⟨β, 0, none⟩)) rfl (by kernel_rfl) (by kernel_rfl) (by kernel_rfl) (fun _ _ _ h => by first | exact h | exact h.elim) (by decide) (fun _ _ => trivial) (fun _ _ => trivial) (Sx.behind (by kernel_rfl) hs0.out) (Or.inl ⟨by rfl, fun uu hu => by go_simp⟩) ?_
          try go_simp
          refine wpAnyX_ready (rs := [4]) (by kernel_rfl) (by simp) (AllX.cons rfl (fun K hK => ?_) AllX.nil)
          go_simp
          refine Calls.mono (wide_any β a c bs _ Gd.out.core.rr) ?_
          rintro e m1 ⟨x9, rfl, hx9, hx10, hr9, hd9⟩
          have Gw := kide (Gd.out.far HB.out hd9 hr9)
          clear hr9 hd9 Gd
          have c0_1 : m1.cell? ⟨w.heap.size + 1, 0, none⟩ = some (Value.slice (some ⟨g5, 0, none⟩) (k + 1) cap5) := Gw.out.xb.cell 0
          have c1_1 : m1.cell? ⟨w.heap.size + 1, 1, none⟩ = some (Value.slice none 0 0) := Gw.out.xb.cell 1
          have hs1 : Hid ((fun uu => uu.cell? ⟨w.heap.size + 1, 0, none⟩ = some (Value.slice (some ⟨g5, 0, none⟩) (k + 1) cap5) ∧ uu.cell? ⟨w.heap.size + 1, 1, none⟩ = some (Value.slice none 0 0)) m1) := ⟨c0_1, c1_1⟩
          refine hK _ _ (Sx.behind (by kernel_rfl) hs1.out) ?_
          clear hK K
          try go_simp
          refine wpAnyX_both (T := (fun _ => True)) (i := 5) (v := Value.pointer (some ⟨g5, k, none⟩)) rfl (by kernel_rfl) (by kernel_rfl) (by kernel_rfl) (fun _ _ _ h => by first | exact h | exact h.elim) (by decide) (fun _ _ => trivial) (fun _ _ => trivial) (Sx.behind (by kernel_rfl) hs1.out) (Or.inl ⟨by rfl, fun uu hu => by go_simp⟩) ?_
          try go_simp
          refine wpAnyX_ready (rs := [6]) (by kernel_rfl) (by simp) (AllX.cons rfl (fun K hK => ?_) AllX.nil)
          have hlk : k < (ws ++ [W']).length := by rw [HL6.out]; omega
          have e0 := Gw.out.core.wid.cellO (i := k) hlk
          have f0 := Gw.out.core.wid.frozO k
          go_simp
          have Gs := kide (Gw.out.setW HR.out (i := k) hlk (x := (x9 : Int)) (by unfold in64; omega))
          clear e0 f0 hlk
          generalize m1.setCell ⟨g5, k, none⟩ (.int .i64 (x9 : Int)) = m2 at *
          have c0_2 : m2.cell? ⟨w.heap.size + 1, 0, none⟩ = some (Value.slice (some ⟨g5, 0, none⟩) (k + 1) cap5) := Gs.out.xb.cell 0
          have c1_2 : m2.cell? ⟨w.heap.size + 1, 1, none⟩ = some (Value.slice none 0 0) := Gs.out.xb.cell 1
          have hs2 : Hid ((fun uu => uu.cell? ⟨w.heap.size + 1, 0, none⟩ = some (Value.slice (some ⟨g5, 0, none⟩) (k + 1) cap5) ∧ uu.cell? ⟨w.heap.size + 1, 1, none⟩ = some (Value.slice none 0 0)) m2) := ⟨c0_2, c1_2⟩
          refine hK _ _ (Sx.behind (by kernel_rfl) hs2.out) ?_
          clear hK K
          try go_simp
          refine wpAnyX_done (by kernel_rfl) ?_ _
          go_wp2_with fail
          go_roundw
          case rel => exact ⟨W', k + 1, _, (ws ++ [W']).set k (x9 : Int), HW'.out, rfl, by go_num, HLT.out, by rw [List.length_set]; exact HL6.out, wb_set (wb_app HWB.out (by have := HW'.out; omega)) ⟨by omega, by omega⟩, Gs.out⟩
          case measure => have := HLT.out; simp only [intOf]; omega
      | false =>
        have g0 := G3.out.xb.cell 0
        simp at g0
        have lx := G3.out.xb.lt
        have hsz : w.heap.size ≤ (w3.alloc (Obj.cells #[Value.int .i64 W] 2)).heap.size := by simp; omega
        have hul : ws.length ≤ 1073741824 := by have := HWL.out; have := HLT.out; have := HNN.out; omega
        go_wp2_with (at_builtin; refine wpList_appI rfl _ _ rfl w.heap.size vw ws W rfl (G3.out.core.wid.later ((Below.refl _ _).alloc (Nat.le_refl _) _)) _ 1 rfl (by simp) hul hsz ?_)
        intro g5 cap5 w5 hos hg5 _
        have hba : Below w3.heap.size w3 (w3.alloc (Obj.cells #[Value.int .i64 W] 2)) := (Below.refl _ _).alloc (Nat.le_refl _) _
        obtain ⟨g6, x6⟩ := (G3.out.later hba).addW HR.out hos hg5 (show in64 W by have := HW.out; unfold in64; omega)
        rw [HWL.out] at g6
        have G6 := kide g6
        have e0 := x6.cell 0
        have e1 := x6.froz 0
        simp at e0
        have hl6 : (ws ++ [W]).length = k + 1 := by rw [List.length_append]; have := HWL.out; simp; omega
        have HL6 := kide hl6
        rw [HWL.out]
        clear hos hg5 hba g6 x6 hsz hul g0 lx hl6
        go_wp2_with fail
        refine Calls.mono (once_any 16 (by omega) (by omega) β a c bs _ G6.out.core.rr) ?_
        rintro e w7 ⟨b7, rfl, hr7, hd7⟩
        have G7 := kide (G6.out.far HB.out hd7 hr7)
        clear hr7 hd7 G6 G3 e0 e1
        have ik7 : (k : Int) ≤ 6 := by have := HLT.out; have := HNN.out; omega
        cases b7 with
        | false =>
          go_wp2_with fail
          go_roundw
          case rel => exact ⟨W, k + 1, _, ws ++ [W], HW.out, rfl, by go_num, HLT.out, HL6.out, wb_app HWB.out (by have := HW.out; omega), G7.out⟩
          case measure => have := HLT.out; simp only [intOf]; omega
        | true =>
          have g0 := G7.out.xb.cell 0
          simp at g0
          have lx := G7.out.xb.lt
          have i1 : (k : Int) < ((k + 1 : Nat) : Int) := by omega
          have i2 : ¬ ((k : Int) + 1 ≤ (k : Int)) := by omega
          go_wp2_with fail
          refine wp_region_x (SA := fun _ => False) (SB := fun uu => uu.cell? ⟨w.heap.size + 1, 0, none⟩ = some (Value.slice (some ⟨g5, 0, none⟩) (k + 1) cap5) ∧ uu.cell? ⟨w.heap.size + 1, 1, none⟩ = some (Value.slice none 0 0)) (k := 999) (by kernel_rfl) ?_
          have hbd : Below w7.heap.size w7 w7.drew := (Below.refl _ _).drew
          have Gd := kide (G7.out.later hbd)
          have c0_0 : w7.drew.cell? ⟨w.heap.size + 1, 0, none⟩ = some (Value.slice (some ⟨g5, 0, none⟩) (k + 1) cap5) := Gd.out.xb.cell 0
          have c1_0 : w7.drew.cell? ⟨w.heap.size + 1, 1, none⟩ = some (Value.slice none 0 0) := Gd.out.xb.cell 1
          clear hbd g0 lx
          generalize w7.drew = m0 at *
          have hs0 : Hid ((fun uu => uu.cell? ⟨w.heap.size + 1, 0, none⟩ = some (Value.slice (some ⟨g5, 0, none⟩) (k + 1) cap5) ∧ uu.cell? ⟨w.heap.size + 1, 1, none⟩ = some (Value.slice none 0 0)) m0) := ⟨c0_0, c1_0⟩
          try go_simp
          refine wpAnyX_both (T := (fun _ => True)) (i := 0) (v := Value.pointer (some ⟨w.heap.size + 1, 0, none⟩)) rfl (by kernel_rfl) (by kernel_rfl) (by kernel_rfl) (fun _ _ _ h => by first | exact h | exact h.elim) (by decide) (fun _ _ => trivial) (fun _ _ => trivial) (Sx.behind (by kernel_rfl) hs0.out) (Or.inl ⟨by rfl, fun uu hu => by go_simp⟩) ?_
          try go_simp
          refine wpAnyX_both (T := (fun uu => uu.cell? ⟨w.heap.size + 1, 0, none⟩ = some (Value.slice (some ⟨g5, 0, none⟩) (k + 1) cap5) ∧ uu.cell? ⟨w.heap.size + 1, 1, none⟩ = some (Value.slice none 0 0))) (i := 1) (v := Value.slice (some ⟨g5, 0, none⟩) (k + 1) cap5) rfl (by kernel_rfl) (by kernel_rfl) (by kernel_rfl) (fun _ _ _ h => by first | exact h | exact h.elim) (by decide) (fun _ h => h.elim) (fun _ h => h) (Sx.behind (by kernel_rfl) hs0.out) (Or.inl ⟨by rfl, fun uu hu => by obtain ⟨e0, e1⟩ := hu; go_simp⟩) ?_
          try go_simp
          refine wpAnyX_both (T := (fun _ => True)) (i := 2) (v := Value.int .i64 (k : Int)) rfl (by kernel_rfl) (by kernel_rfl) (by kernel_rfl) (fun _ _ _ h => by first | exact h | exact h.elim) (by decide) (fun _ _ => trivial) (fun _ _ => trivial) (Sx.behind (by kernel_rfl) hs0.out) (Or.inl ⟨by rfl, fun uu hu => by go_simp⟩) ?_
          try go_simp
          refine wpAnyX_both (T := (fun _ => True)) (i := 3) (v := Value.pointer (some ⟨β, 0, none⟩)) rfl (by kernel_rfl) (by kernel_rfl) (by kernel_rfl) (fun _ _ _ h => by first | exact h | exact h.elim) (by decide) (fun _ _ => trivial) (fun _ _ => trivial) (Sx.behind (by kernel_rfl) hs0.out) (Or.inl ⟨by rfl, fun uu hu => by go_simp⟩) ?_
          try go_simp
          refine wpAnyX_ready (rs := [4]) (by kernel_rfl) (by simp) (AllX.cons rfl (fun K hK => ?_) AllX.nil)
          go_simp
          refine Calls.mono (wide_any β a c bs _ Gd.out.core.rr) ?_
          rintro e m1 ⟨x9, rfl, hx9, hx10, hr9, hd9⟩
          have Gw := kide (Gd.out.far HB.out hd9 hr9)
          clear hr9 hd9 Gd
          have c0_1 : m1.cell? ⟨w.heap.size + 1, 0, none⟩ = some (Value.slice (some ⟨g5, 0, none⟩) (k + 1) cap5) := Gw.out.xb.cell 0
          have c1_1 : m1.cell? ⟨w.heap.size + 1, 1, none⟩ = some (Value.slice none 0 0) := Gw.out.xb.cell 1
          have hs1 : Hid ((fun uu => uu.cell? ⟨w.heap.size + 1, 0, none⟩ = some (Value.slice (some ⟨g5, 0, none⟩) (k + 1) cap5) ∧ uu.cell? ⟨w.heap.size + 1, 1, none⟩ = some (Value.slice none 0 0)) m1) := ⟨c0_1, c1_1⟩
          refine hK _ _ (Sx.behind (by kernel_rfl) hs1.out) ?_
          clear hK K
          try go_simp
          refine wpAnyX_both (T := (fun _ => True)) (i := 5) (v := Value.pointer (some ⟨g5, k, none⟩)) rfl (by kernel_rfl) (by kernel_rfl) (by kernel_rfl) (fun _ _ _ h => by first | exact h | exact h.elim) (by decide) (fun _ _ => trivial) (fun _ _ => trivial) (Sx.behind (by kernel_rfl) hs1.out) (Or.inl ⟨by rfl, fun uu hu => by go_simp⟩) ?_
          try go_simp
          refine wpAnyX_ready (rs := [6]) (by kernel_rfl) (by simp) (AllX.cons rfl (fun K hK => ?_) AllX.nil)
          have hlk : k < (ws ++ [W]).length := by rw [HL6.out]; omega
          have e0 := Gw.out.core.wid.cellO (i := k) hlk
          have f0 := Gw.out.core.wid.frozO k
          go_simp
          have Gs := kide (Gw.out.setW HR.out (i := k) hlk (x := (x9 : Int)) (by unfold in64; omega))
          clear e0 f0 hlk
          generalize m1.setCell ⟨g5, k, none⟩ (.int .i64 (x9 : Int)) = m2 at *
          have c0_2 : m2.cell? ⟨w.heap.size + 1, 0, none⟩ = some (Value.slice (some ⟨g5, 0, none⟩) (k + 1) cap5) := Gs.out.xb.cell 0
          have c1_2 : m2.cell? ⟨w.heap.size + 1, 1, none⟩ = some (Value.slice none 0 0) := Gs.out.xb.cell 1
          have hs2 : Hid ((fun uu => uu.cell? ⟨w.heap.size + 1, 0, none⟩ = some (Value.slice (some ⟨g5, 0, none⟩) (k + 1) cap5) ∧ uu.cell? ⟨w.heap.size + 1, 1, none⟩ = some (Value.slice none 0 0)) m2) := ⟨c0_2, c1_2⟩
          refine hK _ _ (Sx.behind (by kernel_rfl) hs2.out) ?_
          clear hK K
          try go_simp
          refine wpAnyX_done (by kernel_rfl) ?_ _
          go_wp2_with fail
          go_roundw
          case rel => exact ⟨W, k + 1, _, (ws ++ [W]).set k (x9 : Int), HW.out, rfl, by go_num, HLT.out, by rw [List.length_set]; exact HL6.out, wb_set (wb_app HWB.out (by have := HW.out; omega)) ⟨by omega, by omega⟩, Gs.out⟩
          case measure => have := HLT.out; simp only [intOf]; omega
    · have e9 : k = N := by omega
      subst e9
      have hg := GK.out
      have s1 := hg.core.rr.slG
      clear hlt hk G2
      go_wp2_with fail
      refine Calls.mono (belowJ _ (by omega) (by omega) GK.out.core.rr) ?_
      rintro e w3 ⟨x3, rfl, hx3, hr3, hd3⟩
      have G3 := kide (GK.out.far HB.out hd3 hr3)
      have hx24 : x3 ≤ 24 := by omega
      clear hr3 hd3 hx3 GK hg s1
      go_wp2_with fail
      obtain ⟨g1, cp1, rfl⟩ := G3.out.core.wid.formP (by have := HWL.out; have := HNN.out; omega)
      rw [HWL.out] at G3
      go_loopw [7] (fun i wr => ∃ (q : Nat) (vb : Value) (ys : List Yg), i = .int .i64 (q : Int) ∧ q ≤ 24 ∧ ys.length + q ≤ 24 ∧ Gf w wr β a c bs (.slice (some ⟨g1, 0, none⟩) k cp1) ws vb ys) (fun i _ => (intOf i).toNat)
      case atStart => exact ⟨x3, _, [], rfl, hx24, by simpa using hx24, G3.out⟩
      case round =>
        obtain ⟨q, vb, ys, rfl, hq, hyl, hg⟩ := hrel
        have GQ := kide hg
        have HYL := kide hyl
        clear hg hyl
        by_cases hq0 : 0 < q
        · have HQ : Hid (0 < q ∧ q ≤ 24) := ⟨hq0, hq⟩
          have j0 : (q : Int) > 0 := by omega
          clear hq hq0
          go_wp2_with fail
          refine Calls.mono (belowJ _ (by omega) (by have := HNN.out; omega) GQ.out.core.rr) ?_
          rintro e w4 ⟨x4, rfl, hx4, hr4, hd4⟩
          have G4 := kide (GQ.out.far HB.out hd4 hr4)
          have hx4k : x4 < k := by have := HNN.out; omega
          clear hr4 hd4 hx4 GQ
          go_wp2_with fail
          refine Calls.mono (belowJ _ (by omega) (by have := HNN.out; omega) G4.out.core.rr) ?_
          rintro e w5 ⟨x5, rfl, hx5, hr5, hd5⟩
          have G5 := kide (G4.out.far HB.out hd5 hr5)
          have hx5k : x5 < k := by have := HNN.out; omega
          clear hr5 hd5 hx5 G4
          go_wp2_with fail
          refine Calls.mono (once_any 4 (by omega) (by omega) β a c bs _ G5.out.core.rr) ?_
          rintro e w6 ⟨b6, rfl, hr6, hd6⟩
          have G6 := kide (G5.out.far HB.out hd6 hr6)
          clear hr6 hd6 G5
          have j4 : (x4 : Int) < (k : Int) := by omega
          have j5 : (x5 : Int) < (k : Int) := by omega
          have HX4 : Hid (x4 < ws.length) := by show _ < _; have := HWL.out; omega
          have HX5 : Hid (x5 < ws.length) := by show _ < _; have := HWL.out; omega
          clear hx4k hx5k
          obtain ⟨V4, hV4⟩ : ∃ V4 : Nat, ws.getD x4 0 = (V4 : Int) ∧ 1 ≤ V4 ∧ V4 ≤ 200 := by
            have := HWB.out (ws.getD x4 0) (by rw [List.getD, List.getElem?_eq_getElem HX4.out]; exact List.getElem_mem _)
            exact ⟨(ws.getD x4 0).toNat, by omega, by omega, by omega⟩
          have HV4 := kide hV4
          clear hV4
          have HWQ : Hid (wrap64 ((q : Int) - 1) = ((q - 1 : Nat) : Int)) := by show _ = _; unfold wrap64; have := HQ.out; omega
          have HMQ : Hid ((intOf (Value.int .i64 ((q - 1 : Nat) : Int))).toNat < (intOf (Value.int .i64 (q : Int))).toNat) := by have := HQ.out; show _ < _; simp only [intOf]; omega
          cases b6 with
          | true =>
            go_wp2_with fail
            refine wp_region_x (SA := fun uu => uu.cell? ⟨w.heap.size + 1, 1, none⟩ = some (vb) ∧ uu.cell? ⟨w.heap.size + 1, 0, none⟩ = some (Value.slice (some ⟨g1, 0, none⟩) k cp1) ∧ uu.cell? ⟨g1, x4, none⟩ = some (Value.int .i64 (V4 : Int))) (SB := fun _ => True) (k := 14) (by kernel_rfl) ?_
            have hbd : Below w6.heap.size w6 w6.drew := (Below.refl _ _).drew
            have Gd := kide (G6.out.later hbd)
            clear hbd
            generalize w6.drew = m0 at *
            have c0_0 : m0.cell? ⟨w.heap.size + 1, 1, none⟩ = some (vb) := Gd.out.xb.cell 1
            have c1_0 : m0.cell? ⟨w.heap.size + 1, 0, none⟩ = some (Value.slice (some ⟨g1, 0, none⟩) k cp1) := Gd.out.xb.cell 0
            have c2_0 : m0.cell? ⟨g1, x4, none⟩ = some (Value.int .i64 (V4 : Int)) := by rw [← HV4.out.1]; exact Gd.out.core.wid.cellO HX4.out
            have hs0 : Hid ((fun uu => uu.cell? ⟨w.heap.size + 1, 1, none⟩ = some (vb) ∧ uu.cell? ⟨w.heap.size + 1, 0, none⟩ = some (Value.slice (some ⟨g1, 0, none⟩) k cp1) ∧ uu.cell? ⟨g1, x4, none⟩ = some (Value.int .i64 (V4 : Int))) m0) := ⟨c0_0, c1_0, c2_0⟩
            try go_simp
            refine wpAnyX_both (T := fun _ => True) (i := 0) (v := Value.pointer (some ⟨w.heap.size + 1, 1, none⟩)) rfl (by kernel_rfl) (by kernel_rfl) (by kernel_rfl) (fun _ _ _ h => by first | exact h | exact h.elim) (by decide) (fun _ _ => trivial) (fun _ _ => trivial) (Sx.before (by kernel_rfl) hs0.out) (Or.inl ⟨by rfl, fun uu hu => by go_simp⟩) ?_
            try go_simp
            refine wpAnyX_take (i := 1) (v := vb) rfl (by kernel_rfl) (by kernel_rfl) (by kernel_rfl) (fun _ _ _ h => by first | exact h | exact h.elim) (by decide) (by kernel_rfl) (by kernel_rfl) hs0.out (Or.inl ⟨by rfl, fun uu hu => by obtain ⟨e0, e1, e2⟩ := hu; go_simp⟩) ?_
            try go_simp
            refine wpAnyX_both (T := fun _ => True) (i := 2) (v := Value.int .i64 (x4 : Int)) rfl (by kernel_rfl) (by kernel_rfl) (by kernel_rfl) (fun _ _ _ h => by first | exact h | exact h.elim) (by decide) (fun _ _ => trivial) (fun _ _ => trivial) (Sx.before (by kernel_rfl) hs0.out) (Or.inl ⟨by rfl, fun uu hu => by go_simp⟩) ?_
            try go_simp
            refine wpAnyX_both (T := fun _ => True) (i := 3) (v := Value.pointer (some ⟨β, 0, none⟩)) rfl (by kernel_rfl) (by kernel_rfl) (by kernel_rfl) (fun _ _ _ h => by first | exact h | exact h.elim) (by decide) (fun _ _ => trivial) (fun _ _ => trivial) (Sx.before (by kernel_rfl) hs0.out) (Or.inl ⟨by rfl, fun uu hu => by go_simp⟩) ?_
            try go_simp
            refine wpAnyX_both (T := fun _ => True) (i := 4) (v := Value.pointer (some ⟨w.heap.size + 1, 0, none⟩)) rfl (by kernel_rfl) (by kernel_rfl) (by kernel_rfl) (fun _ _ _ h => by first | exact h | exact h.elim) (by decide) (fun _ _ => trivial) (fun _ _ => trivial) (Sx.before (by kernel_rfl) hs0.out) (Or.inl ⟨by rfl, fun uu hu => by go_simp⟩) ?_
            try go_simp
            refine wpAnyX_take (i := 5) (v := Value.slice (some ⟨g1, 0, none⟩) k cp1) rfl (by kernel_rfl) (by kernel_rfl) (by kernel_rfl) (fun _ _ _ h => by first | exact h | exact h.elim) (by decide) (by kernel_rfl) (by kernel_rfl) hs0.out (Or.inl ⟨by rfl, fun uu hu => by obtain ⟨e0, e1, e2⟩ := hu; go_simp⟩) ?_
            try go_simp
            refine wpAnyX_both (T := fun _ => True) (i := 6) (v := Value.int .i64 (x4 : Int)) rfl (by kernel_rfl) (by kernel_rfl) (by kernel_rfl) (fun _ _ _ h => by first | exact h | exact h.elim) (by decide) (fun _ _ => trivial) (fun _ _ => trivial) (Sx.before (by kernel_rfl) hs0.out) (Or.inl ⟨by rfl, fun uu hu => by go_simp⟩) ?_
            try go_simp
            refine wpAnyX_both (T := fun _ => True) (i := 7) (v := Value.pointer (some ⟨g1, x4, none⟩)) rfl (by kernel_rfl) (by kernel_rfl) (by kernel_rfl) (fun _ _ _ h => by first | exact h | exact h.elim) (by decide) (fun _ _ => trivial) (fun _ _ => trivial) (Sx.before (by kernel_rfl) hs0.out) (Or.inl ⟨by rfl, fun uu hu => by go_simp⟩) ?_
            try go_simp
            refine wpAnyX_take (i := 8) (v := Value.int .i64 (V4 : Int)) rfl (by kernel_rfl) (by kernel_rfl) (by kernel_rfl) (fun _ _ _ h => by first | exact h | exact h.elim) (by decide) (by kernel_rfl) (by kernel_rfl) hs0.out (Or.inl ⟨by rfl, fun uu hu => by obtain ⟨e0, e1, e2⟩ := hu; go_simp⟩) ?_
            try go_simp
            refine wpAnyX_ready (rs := [9]) (by kernel_rfl) (by simp) (AllX.cons rfl (fun K hK => ?_) AllX.nil)
            go_simp
            refine Calls.mono (bits_any V4 HV4.out.2.1 (by have := HV4.out.2.2; omega) β a c bs _ Gd.out.core.rr) ?_
            rintro e m1 ⟨a9, l9, hl9, hb9, rfl, hf9, hr9, hd9⟩
            have Gw := kide (Gd.out.far HB.out hd9 hr9)
            have WQ : Hid (Wq m1 a9 (pack l9)) := wq_fresh hf9 hl9 (by have := HV4.out; omega)
            clear hr9 hd9 Gd hf9 hb9 hl9
            have c0_1 : m1.cell? ⟨w.heap.size + 1, 1, none⟩ = some (vb) := Gw.out.xb.cell 1
            have c1_1 : m1.cell? ⟨w.heap.size + 1, 0, none⟩ = some (Value.slice (some ⟨g1, 0, none⟩) k cp1) := Gw.out.xb.cell 0
            have c2_1 : m1.cell? ⟨g1, x4, none⟩ = some (Value.int .i64 (V4 : Int)) := by rw [← HV4.out.1]; exact Gw.out.core.wid.cellO HX4.out
            have hs1 : Hid ((fun uu => uu.cell? ⟨w.heap.size + 1, 1, none⟩ = some (vb) ∧ uu.cell? ⟨w.heap.size + 1, 0, none⟩ = some (Value.slice (some ⟨g1, 0, none⟩) k cp1) ∧ uu.cell? ⟨g1, x4, none⟩ = some (Value.int .i64 (V4 : Int))) m1) := ⟨c0_1, c1_1, c2_1⟩
            refine hK _ _ (Sx.before (by kernel_rfl) hs1.out) ?_
            clear hK K
            try go_simp
            refine wpAnyX_both (T := fun _ => True) (i := 10) (v := Value.agg #[Value.int .i64 (x4 : Int), Value.int .i64 (-1), Value.int .i64 (V4 : Int), Value.slice a9 (pack l9).length (pack l9).length]) rfl (by kernel_rfl) (by kernel_rfl) (by kernel_rfl) (fun _ _ _ h => by first | exact h | exact h.elim) (by decide) (fun _ _ => trivial) (fun _ _ => trivial) (Sx.before (by kernel_rfl) hs1.out) (Or.inl ⟨by rfl, fun uu hu => by go_simp⟩) ?_
            try go_simp
            refine wpAnyX_ready (rs := [11]) (by kernel_rfl) (by simp) (AllX.cons rfl (fun K hK => ?_) AllX.nil)
            go_simp
            have hba : Below m1.heap.size m1 (m1.alloc (Obj.cells #[Value.int .i64 (x4 : Int), Value.int .i64 (-1), Value.int .i64 (V4 : Int), Value.slice a9 (pack l9).length (pack l9).length] 86)) := (Below.refl _ _).alloc (Nat.le_refl _) _
            have Ga := kide (Gw.out.later hba)
            have WQa := kide (WQ.out.kept (o := none) (fun b cur t fr hh _ _ => hba.block b (lt_of_block hh)) (fun _ _ => by simp))
            clear hba
            have z0 : (m1.alloc (Obj.cells #[Value.int .i64 (x4 : Int), Value.int .i64 (-1), Value.int .i64 (V4 : Int), Value.slice a9 (pack l9).length (pack l9).length] 86)).cell? ⟨m1.heap.size, 0, none⟩ = some (Value.int .i64 (x4 : Int)) := by simp
            have z1 : (m1.alloc (Obj.cells #[Value.int .i64 (x4 : Int), Value.int .i64 (-1), Value.int .i64 (V4 : Int), Value.slice a9 (pack l9).length (pack l9).length] 86)).cell? ⟨m1.heap.size, 1, none⟩ = some (Value.int .i64 (-1)) := by simp
            have z2 : (m1.alloc (Obj.cells #[Value.int .i64 (x4 : Int), Value.int .i64 (-1), Value.int .i64 (V4 : Int), Value.slice a9 (pack l9).length (pack l9).length] 86)).cell? ⟨m1.heap.size, 2, none⟩ = some (Value.int .i64 (V4 : Int)) := by simp
            have z3 : (m1.alloc (Obj.cells #[Value.int .i64 (x4 : Int), Value.int .i64 (-1), Value.int .i64 (V4 : Int), Value.slice a9 (pack l9).length (pack l9).length] 86)).cell? ⟨m1.heap.size, 3, none⟩ = some (Value.slice a9 (pack l9).length (pack l9).length) := by simp
            obtain ⟨g9, hg9⟩ : ∃ x, m1.heap.size = x := ⟨_, rfl⟩
            rw [hg9] at z0 z1 z2 z3
            rw [hg9]
            clear hg9
            generalize m1.alloc (Obj.cells #[Value.int .i64 (x4 : Int), Value.int .i64 (-1), Value.int .i64 (V4 : Int), Value.slice a9 (pack l9).length (pack l9).length] 86) = m2 at *
            have c0_2 : m2.cell? ⟨w.heap.size + 1, 1, none⟩ = some (vb) := Ga.out.xb.cell 1
            have c1_2 : m2.cell? ⟨w.heap.size + 1, 0, none⟩ = some (Value.slice (some ⟨g1, 0, none⟩) k cp1) := Ga.out.xb.cell 0
            have c2_2 : m2.cell? ⟨g1, x4, none⟩ = some (Value.int .i64 (V4 : Int)) := by rw [← HV4.out.1]; exact Ga.out.core.wid.cellO HX4.out
            have hs2 : Hid ((fun uu => uu.cell? ⟨w.heap.size + 1, 1, none⟩ = some (vb) ∧ uu.cell? ⟨w.heap.size + 1, 0, none⟩ = some (Value.slice (some ⟨g1, 0, none⟩) k cp1) ∧ uu.cell? ⟨g1, x4, none⟩ = some (Value.int .i64 (V4 : Int))) m2) := ⟨c0_2, c1_2, c2_2⟩
            refine hK _ _ (Sx.before (by kernel_rfl) hs2.out) ?_
            clear hK K
            try go_simp
            refine wpAnyX_ready (rs := [12]) (by kernel_rfl) (by simp) (AllX.cons rfl (fun K hK => ?_) AllX.nil)
            refine step_appB4 _ rfl _ _ rfl w.heap.size vb ys ⟨⟨(x4 : Int), -1, (V4 : Int), pack l9⟩, a9, (pack l9).length⟩ (by first | rfl | simp [Act.eval]) Ga.out.core.bar g9 1 (by first | rfl | simp [Act.eval]) z0 z1 z2 z3 (by have := HYL.out; omega) (by have := Ga.out.xb.lt; omega) ?_
            intro g8 cap8 m3 ho9 hg9
            obtain ⟨gs, x1, gc⟩ := Ga.out.addB HR.out ho9 hg9 ⟨WQa.out, by have := HX4.out; have := HWL.out; have := HNN.out; unfold in64; simp only []; omega, by unfold in64; simp only []; omega, by have := HV4.out; unfold in64; simp only []; omega, by simp⟩
            have Gs := kide gs
            have X1 := kide x1
            have GC := kide gc
            clear gs x1 gc ho9 hg9 z0 z1 z2 z3
            have c0_3 : m3.cell? ⟨w.heap.size + 1, 1, none⟩ = some (vb) := X1.out.cell 1
            have c1_3 : m3.cell? ⟨w.heap.size + 1, 0, none⟩ = some (Value.slice (some ⟨g1, 0, none⟩) k cp1) := X1.out.cell 0
            have c2_3 : m3.cell? ⟨g1, x4, none⟩ = some (Value.int .i64 (V4 : Int)) := by rw [← HV4.out.1]; exact GC.out.wid.cellO HX4.out
            have hs3 : Hid ((fun uu => uu.cell? ⟨w.heap.size + 1, 1, none⟩ = some (vb) ∧ uu.cell? ⟨w.heap.size + 1, 0, none⟩ = some (Value.slice (some ⟨g1, 0, none⟩) k cp1) ∧ uu.cell? ⟨g1, x4, none⟩ = some (Value.int .i64 (V4 : Int))) m3) := ⟨c0_3, c1_3, c2_3⟩
            refine hK _ _ (Sx.before (by kernel_rfl) hs3.out) ?_
            clear hK K
            try go_simp
            refine wpAnyX_both (T := fun _ => True) (i := 13) (v := Value.pointer (some ⟨w.heap.size + 1, 1, none⟩)) rfl (by kernel_rfl) (by kernel_rfl) (by kernel_rfl) (fun _ _ _ h => by first | exact h | exact h.elim) (by decide) (fun _ _ => trivial) (fun _ _ => trivial) (Sx.before (by kernel_rfl) hs3.out) (Or.inl ⟨by rfl, fun uu hu => by go_simp⟩) ?_
            try go_simp
            refine wpAnyX_ready (rs := [14]) (by kernel_rfl) (by simp) (AllX.cons rfl (fun K hK => ?_) AllX.nil)
            have e0 := X1.out.cell 1
            have f0 := X1.out.froz 1
            simp at e0
            go_simp
            clear e0 f0
            generalize m3.setCell ⟨w.heap.size + 1, 1, none⟩ (.slice (some ⟨g8, 0, none⟩) (ys.length + 1) cap8) = m4 at *
            refine hK _ _ (Sx.behind (by kernel_rfl) trivial) ?_
            clear hK K
            try go_simp
            refine wpAnyX_done (by kernel_rfl) ?_ _
            go_wp2_with fail
            rw [HWQ.out]
            exact ⟨⟨q - 1, _, _, rfl, by have := HQ.out; omega, by have := HQ.out; have := HYL.out; simp; omega, Gs.out⟩, HMQ.out⟩
          | false =>
            by_cases hxx : x4 = x5
            · subst hxx
              have c0 := G6.out.xb.cell 0
              simp at c0
              have hbb : ((x4 : Int) != (x4 : Int)) = false := by simp
              go_wp2_with fail
              go_quiet (fail)
              have G7 := kide (G6.out.later (below_drewN (Below.refl _ _) nq))
              go_wp2_with fail
              rw [HWQ.out]
              exact ⟨⟨q - 1, _, _, rfl, by have := HQ.out; omega, by have := HQ.out; have := HYL.out; omega, G7.out⟩, HMQ.out⟩
            · obtain ⟨V5, hV5⟩ : ∃ V5 : Int, ws.getD x5 0 = V5 := ⟨_, rfl⟩
              obtain ⟨U4, hU4⟩ : ∃ U4 : Int, (V4 : Int) = U4 := ⟨_, rfl⟩
              have c0 := G6.out.xb.cell 0
              have lx := G6.out.xb.lt
              have c4 := G6.out.core.wid.cellO HX4.out
              have c5 := G6.out.core.wid.cellO HX5.out
              rw [HV4.out.1, hU4] at c4
              rw [hV5] at c5
              have lg := block_lt_of_cell c4
              simp at c0
              have hbb : ((x4 : Int) != (x5 : Int)) = true := by simp; omega
              have HXX := kide hxx
              clear hxx hV5 hU4
              by_cases huv : U4 = V5
              · subst huv
                go_wp2_with fail
                go_quiet (fail)
                have G7 := kide (G6.out.later (below_drewN (Below.refl _ _) nq))
                clear c0 c4 c5 lx lg G6
                generalize w6.drewN nq = w7 at *
                have c1 := G7.out.xb.cell 1
                simp at c1
                have lx := G7.out.xb.lt
                obtain ⟨vn, hvn⟩ : ∃ n, n = ys.length := ⟨_, rfl⟩
                have hul : ys.length ≤ 1073741824 := by have := HYL.out; omega
                clear hvn
                go_wp2_with (at_builtin; refine wpList_appB4 rfl _ _ rfl w.heap.size vb ys ⟨⟨(x4 : Int), (x5 : Int), 0, []⟩, none, 0⟩ rfl (G7.out.core.bar.later ((Below.refl _ _).alloc (Nat.le_refl _) _)) w7.heap.size rfl (by simp) (by simp) (by simp) (by simp) hul (by simp; omega) ?_)
                intro v9 w8 ho9 hg9
                obtain ⟨a9, c9, rfl⟩ := ho9.form
                have hl9 : (ys ++ [(⟨⟨(x4 : Int), (x5 : Int), 0, []⟩, none, 0⟩ : Yg)]).length = ys.length + 1 := by simp
                rw [hl9] at ho9
                rw [hl9]
                have hba : Below w7.heap.size w7 (w7.alloc (Obj.cells #[Value.int .i64 (x4 : Int), Value.int .i64 (x5 : Int), Value.int .i64 0, Value.slice none 0 0] 86)) := (Below.refl _ _).alloc (Nat.le_refl _) _
                obtain ⟨gs, x1, -⟩ := (G7.out.later hba).addB HR.out ho9 hg9 ⟨⟨⟨by simp, by simp, .inl rfl⟩, fun ad e => by cases e⟩, by have := HX4.out; have := HWL.out; have := HNN.out; unfold in64; simp only []; omega, by have := HX5.out; have := HWL.out; have := HNN.out; unfold in64; simp only []; omega, by unfold in64; simp only []; omega, by simp⟩
                have e0 := x1.cell 1
                have f0 := x1.froz 1
                simp at e0
                have Gs := kide gs
                clear gs x1 hba ho9 hg9 c1 lx hul
                go_wp2_with fail
                rw [HWQ.out]
                exact ⟨⟨q - 1, _, _, rfl, by have := HQ.out; omega, by have := HQ.out; have := HYL.out; simp; omega, Gs.out⟩, HMQ.out⟩
              · have hvb : (U4 == V5) = false := by simpa using huv
                clear huv
                go_wp2_with fail
                go_quiet (fail)
                have G7 := kide (G6.out.later (below_drewN (Below.refl _ _) nq))
                go_wp2_with fail
                rw [HWQ.out]
                exact ⟨⟨q - 1, _, _, rfl, by have := HQ.out; omega, by have := HQ.out; have := HYL.out; omega, G7.out⟩, HMQ.out⟩
        · have e9 : q = 0 := by omega
          subst e9
          clear hq hq0
          go_wp2_with fail
          refine Calls.mono (belowJ 30 (by omega) (by omega) GQ.out.core.rr) ?_
          rintro e w4 ⟨x4, rfl, hx4, hr4, hd4⟩
          have G4 := kide (GQ.out.far HB.out hd4 hr4)
          clear hr4 hd4 hx4 GQ
          obtain ⟨a2, c2, rfl⟩ := G4.out.core.bar.form
          obtain ⟨n2, hn2⟩ : ∃ n2, ys.length = n2 := ⟨_, rfl⟩
          rw [hn2] at G4
          have HN2 : Hid (ys.length = n2 ∧ n2 ≤ 24) := by have := HYL.out; exact ⟨hn2, by omega⟩
          clear hn2
          have HK : Hid (1 ≤ k ∧ k ≤ 7) := HNN.out
          by_cases h0 : x4 = 0
          · subst h0
            obtain ⟨j, hj⟩ : ∃ j : Nat, (k : Int) - 1 = (j : Int) := ⟨k - 1, by have := HK.out; omega⟩
            have hwj : IntKind.i64.wrap ((k : Int) - 1) = (j : Int) := by have := HK.out; rw [IntKind.wrap_i64] <;> omega
            have HJ : Hid (j ≤ 6 ∧ in64 (j : Int)) := by have := HK.out; exact ⟨by omega, by unfold in64; omega⟩
            clear hj
            have c0 := G4.out.xb.cell 0
            have c1 := G4.out.xb.cell 1
            have lx := G4.out.xb.lt
            simp at c0 c1
            go_wp2_with fail
            refine wp_region_x (SA := fun uu => uu.cell? ⟨w.heap.size + 1, 1, none⟩ = some (Value.slice a2 n2 c2) ∧ uu.cell? ⟨w.heap.size + 1, 0, none⟩ = some (Value.slice (some ⟨g1, 0, none⟩) k cp1)) (SB := fun _ => True) (k := 14) (by kernel_rfl) ?_
            have hbd : Below w4.heap.size w4 w4.drew := (Below.refl _ _).drew
            have Gd := kide (G4.out.later hbd)
            clear hbd c0 c1 lx
            generalize w4.drew = m0 at *
            have c0_0 : m0.cell? ⟨w.heap.size + 1, 1, none⟩ = some (Value.slice a2 n2 c2) := Gd.out.xb.cell 1
            have c1_0 : m0.cell? ⟨w.heap.size + 1, 0, none⟩ = some (Value.slice (some ⟨g1, 0, none⟩) k cp1) := Gd.out.xb.cell 0
            have hs0 : Hid ((fun uu => uu.cell? ⟨w.heap.size + 1, 1, none⟩ = some (Value.slice a2 n2 c2) ∧ uu.cell? ⟨w.heap.size + 1, 0, none⟩ = some (Value.slice (some ⟨g1, 0, none⟩) k cp1)) m0) := ⟨c0_0, c1_0⟩
            try go_simp
            refine wpAnyX_both (T := fun _ => True) (i := 0) (v := Value.pointer (some ⟨w.heap.size + 1, 1, none⟩)) rfl (by kernel_rfl) (by kernel_rfl) (by kernel_rfl) (fun _ _ _ h => by first | exact h | exact h.elim) (by decide) (fun _ _ => trivial) (fun _ _ => trivial) (Sx.before (by kernel_rfl) hs0.out) (Or.inl ⟨by rfl, fun uu hu => by go_simp⟩) ?_
            try go_simp
            refine wpAnyX_take (i := 1) (v := Value.slice a2 n2 c2) rfl (by kernel_rfl) (by kernel_rfl) (by kernel_rfl) (fun _ _ _ h => by first | exact h | exact h.elim) (by decide) (by kernel_rfl) (by kernel_rfl) hs0.out (Or.inl ⟨by rfl, fun uu hu => by obtain ⟨e0, e1⟩ := hu; go_simp⟩) ?_
            try go_simp
            refine wpAnyX_both (T := fun _ => True) (i := 2) (v := Value.pointer (some ⟨β, 0, none⟩)) rfl (by kernel_rfl) (by kernel_rfl) (by kernel_rfl) (fun _ _ _ h => by first | exact h | exact h.elim) (by decide) (fun _ _ => trivial) (fun _ _ => trivial) (Sx.before (by kernel_rfl) hs0.out) (Or.inl ⟨by rfl, fun uu hu => by go_simp⟩) ?_
            try go_simp
            refine wpAnyX_both (T := fun _ => True) (i := 3) (v := Value.int .i64 (k : Int)) rfl (by kernel_rfl) (by kernel_rfl) (by kernel_rfl) (fun _ _ _ h => by first | exact h | exact h.elim) (by decide) (fun _ _ => trivial) (fun _ _ => trivial) (Sx.before (by kernel_rfl) hs0.out) (Or.inl ⟨by rfl, fun uu hu => by go_simp⟩) ?_
            try go_simp
            refine wpAnyX_both (T := fun _ => True) (i := 4) (v := Value.int .i64 (j : Int)) rfl (by kernel_rfl) (by kernel_rfl) (by kernel_rfl) (fun _ _ _ h => by first | exact h | exact h.elim) (by decide) (fun _ _ => trivial) (fun _ _ => trivial) (Sx.before (by kernel_rfl) hs0.out) (Or.inl ⟨by rfl, fun uu hu => by go_simp⟩) ?_
            try go_simp
            refine wpAnyX_both (T := fun _ => True) (i := 6) (v := Value.pointer (some ⟨β, 0, none⟩)) rfl (by kernel_rfl) (by kernel_rfl) (by kernel_rfl) (fun _ _ _ h => by first | exact h | exact h.elim) (by decide) (fun _ _ => trivial) (fun _ _ => trivial) (Sx.before (by kernel_rfl) hs0.out) (Or.inl ⟨by rfl, fun uu hu => by go_simp⟩) ?_
            try go_simp
            refine wpAnyX_both (T := fun _ => True) (i := 7) (v := Value.int .i64 (k : Int)) rfl (by kernel_rfl) (by kernel_rfl) (by kernel_rfl) (fun _ _ _ h => by first | exact h | exact h.elim) (by decide) (fun _ _ => trivial) (fun _ _ => trivial) (Sx.before (by kernel_rfl) hs0.out) (Or.inl ⟨by rfl, fun uu hu => by go_simp⟩) ?_
            try go_simp
            refine wpAnyX_both (T := fun _ => True) (i := 8) (v := Value.int .i64 (j : Int)) rfl (by kernel_rfl) (by kernel_rfl) (by kernel_rfl) (fun _ _ _ h => by first | exact h | exact h.elim) (by decide) (fun _ _ => trivial) (fun _ _ => trivial) (Sx.before (by kernel_rfl) hs0.out) (Or.inl ⟨by rfl, fun uu hu => by go_simp⟩) ?_
            try go_simp
            refine wpAnyX_ready (rs := [5]) (by kernel_rfl) (by simp) (AllX.cons rfl (fun K hK => ?_) AllX.nil)
            go_simp
            refine Calls.mono (off0_any (j : Int) HJ.out.2 β a c bs _ Gd.out.core.rr) ?_
            rintro e m1 ⟨x5, rfl, hx5, hr5, hd5⟩
            have Ge := kide (Gd.out.far HB.out hd5 hr5)
            clear hr5 hd5 Gd
            have c0_1 : m1.cell? ⟨w.heap.size + 1, 1, none⟩ = some (Value.slice a2 n2 c2) := Ge.out.xb.cell 1
            have c1_1 : m1.cell? ⟨w.heap.size + 1, 0, none⟩ = some (Value.slice (some ⟨g1, 0, none⟩) k cp1) := Ge.out.xb.cell 0
            have hs1 : Hid ((fun uu => uu.cell? ⟨w.heap.size + 1, 1, none⟩ = some (Value.slice a2 n2 c2) ∧ uu.cell? ⟨w.heap.size + 1, 0, none⟩ = some (Value.slice (some ⟨g1, 0, none⟩) k cp1)) m1) := ⟨c0_1, c1_1⟩
            refine hK _ _ (Sx.before (by kernel_rfl) hs1.out) ?_
            clear hK K
            try go_simp
            refine wpAnyX_ready (rs := [9]) (by kernel_rfl) (by simp) (AllX.cons rfl (fun K hK => ?_) AllX.nil)
            go_simp
            refine Calls.mono (offm_any j (by have := HJ.out.1; omega) β a c bs _ Ge.out.core.rr) ?_
            rintro e m2 ⟨x6, rfl, hx6, hr6, hd6⟩
            have Gw := kide (Ge.out.far HB.out hd6 hr6)
            clear hr6 hd6 Ge
            have c0_2 : m2.cell? ⟨w.heap.size + 1, 1, none⟩ = some (Value.slice a2 n2 c2) := Gw.out.xb.cell 1
            have c1_2 : m2.cell? ⟨w.heap.size + 1, 0, none⟩ = some (Value.slice (some ⟨g1, 0, none⟩) k cp1) := Gw.out.xb.cell 0
            have hs2 : Hid ((fun uu => uu.cell? ⟨w.heap.size + 1, 1, none⟩ = some (Value.slice a2 n2 c2) ∧ uu.cell? ⟨w.heap.size + 1, 0, none⟩ = some (Value.slice (some ⟨g1, 0, none⟩) k cp1)) m2) := ⟨c0_2, c1_2⟩
            refine hK _ _ (Sx.before (by kernel_rfl) hs2.out) ?_
            clear hK K
            try go_simp
            refine wpAnyX_both (T := fun _ => True) (i := 10) (v := Value.agg #[Value.int .i64 x5, Value.int .i64 x6, Value.int .i64 0, Value.slice none 0 0]) rfl (by kernel_rfl) (by kernel_rfl) (by kernel_rfl) (fun _ _ _ h => by first | exact h | exact h.elim) (by decide) (fun _ _ => trivial) (fun _ _ => trivial) (Sx.before (by kernel_rfl) hs2.out) (Or.inl ⟨by rfl, fun uu hu => by go_simp⟩) ?_
            try go_simp
            refine wpAnyX_ready (rs := [11]) (by kernel_rfl) (by simp) (AllX.cons rfl (fun K hK => ?_) AllX.nil)
            go_simp
            have hba : Below m2.heap.size m2 (m2.alloc (Obj.cells #[Value.int .i64 x5, Value.int .i64 x6, Value.int .i64 0, Value.slice none 0 0] 86)) := (Below.refl _ _).alloc (Nat.le_refl _) _
            have Ga := kide (Gw.out.later hba)
            clear hba
            have z0 : (m2.alloc (Obj.cells #[Value.int .i64 x5, Value.int .i64 x6, Value.int .i64 0, Value.slice none 0 0] 86)).cell? ⟨m2.heap.size, 0, none⟩ = some (Value.int .i64 x5) := by simp
            have z1 : (m2.alloc (Obj.cells #[Value.int .i64 x5, Value.int .i64 x6, Value.int .i64 0, Value.slice none 0 0] 86)).cell? ⟨m2.heap.size, 1, none⟩ = some (Value.int .i64 x6) := by simp
            have z2 : (m2.alloc (Obj.cells #[Value.int .i64 x5, Value.int .i64 x6, Value.int .i64 0, Value.slice none 0 0] 86)).cell? ⟨m2.heap.size, 2, none⟩ = some (Value.int .i64 0) := by simp
            have z3 : (m2.alloc (Obj.cells #[Value.int .i64 x5, Value.int .i64 x6, Value.int .i64 0, Value.slice none 0 0] 86)).cell? ⟨m2.heap.size, 3, none⟩ = some (Value.slice none 0 0) := by simp
            obtain ⟨g9, hg9⟩ : ∃ x, m2.heap.size = x := ⟨_, rfl⟩
            rw [hg9] at z0 z1 z2 z3
            rw [hg9]
            clear hg9
            generalize m2.alloc (Obj.cells #[Value.int .i64 x5, Value.int .i64 x6, Value.int .i64 0, Value.slice none 0 0] 86) = m3 at *
            have c0_3 : m3.cell? ⟨w.heap.size + 1, 1, none⟩ = some (Value.slice a2 n2 c2) := Ga.out.xb.cell 1
            have c1_3 : m3.cell? ⟨w.heap.size + 1, 0, none⟩ = some (Value.slice (some ⟨g1, 0, none⟩) k cp1) := Ga.out.xb.cell 0
            have hs3 : Hid ((fun uu => uu.cell? ⟨w.heap.size + 1, 1, none⟩ = some (Value.slice a2 n2 c2) ∧ uu.cell? ⟨w.heap.size + 1, 0, none⟩ = some (Value.slice (some ⟨g1, 0, none⟩) k cp1)) m3) := ⟨c0_3, c1_3⟩
            refine hK _ _ (Sx.before (by kernel_rfl) hs3.out) ?_
            clear hK K
            try go_simp
            refine wpAnyX_ready (rs := [12]) (by kernel_rfl) (by simp) (AllX.cons rfl (fun K hK => ?_) AllX.nil)
            refine step_appB4 _ rfl _ _ rfl w.heap.size (Value.slice a2 n2 c2) ys ⟨⟨x5, x6, 0, []⟩, none, 0⟩ (by first | rfl | simp [Act.eval]) Ga.out.core.bar g9 1 (by first | rfl | simp [Act.eval]) z0 z1 z2 z3 (by have := HN2.out; omega) (by have := Ga.out.xb.lt; omega) ?_
            intro g8 cap8 m4 ho9 hg9
            rw [HN2.out.1] at ho9
            rw [HN2.out.1]
            obtain ⟨gs, x1, gc⟩ := Ga.out.addB HR.out ho9 hg9 ⟨⟨⟨by simp, by simp, .inl rfl⟩, fun ad e => by cases e⟩, hx5, hx6, by unfold in64; simp only []; omega, by simp⟩
            have Gs := kide gs
            have X1 := kide x1
            clear gs x1 gc ho9 hg9 z0 z1 z2 z3
            have c0_4 : m4.cell? ⟨w.heap.size + 1, 1, none⟩ = some (Value.slice a2 n2 c2) := X1.out.cell 1
            have c1_4 : m4.cell? ⟨w.heap.size + 1, 0, none⟩ = some (Value.slice (some ⟨g1, 0, none⟩) k cp1) := X1.out.cell 0
            have hs4 : Hid ((fun uu => uu.cell? ⟨w.heap.size + 1, 1, none⟩ = some (Value.slice a2 n2 c2) ∧ uu.cell? ⟨w.heap.size + 1, 0, none⟩ = some (Value.slice (some ⟨g1, 0, none⟩) k cp1)) m4) := ⟨c0_4, c1_4⟩
            refine hK _ _ (Sx.before (by kernel_rfl) hs4.out) ?_
            clear hK K
            try go_simp
            refine wpAnyX_both (T := fun _ => True) (i := 13) (v := Value.pointer (some ⟨w.heap.size + 1, 1, none⟩)) rfl (by kernel_rfl) (by kernel_rfl) (by kernel_rfl) (fun _ _ _ h => by first | exact h | exact h.elim) (by decide) (fun _ _ => trivial) (fun _ _ => trivial) (Sx.before (by kernel_rfl) hs4.out) (Or.inl ⟨by rfl, fun uu hu => by go_simp⟩) ?_
            try go_simp
            refine wpAnyX_ready (rs := [14]) (by kernel_rfl) (by simp) (AllX.cons rfl (fun K hK => ?_) AllX.nil)
            have e0 := X1.out.cell 1
            have f0 := X1.out.froz 1
            simp at e0
            go_simp
            clear e0 f0
            generalize m4.setCell ⟨w.heap.size + 1, 1, none⟩ (.slice (some ⟨g8, 0, none⟩) (n2 + 1) cap8) = m5 at *
            refine hK _ _ (Sx.behind (by kernel_rfl) trivial) ?_
            clear hK K
            try go_simp
            refine wpAnyX_done (by kernel_rfl) ?_ _
            have r0 := Gs.out.rb.cell 0
            have r1 := Gs.out.rb.cell 1
            have f0 := Gs.out.rb.froz 0
            have f1 := Gs.out.rb.froz 1
            have g0 := Gs.out.xb.cell 0
            have g1' := Gs.out.xb.cell 1
            simp at r0 r1 g0 g1'
            have t9 := Gs.out.rb.set 0 (Value.slice (some ⟨g1, 0, none⟩) k cp1)
            have t0 := (t9.set 1 (Value.slice (some ⟨g8, 0, none⟩) (n2 + 1) cap8)).cell 0
            have t1 := (t9.set 1 (Value.slice (some ⟨g8, 0, none⟩) (n2 + 1) cap8)).cell 1
            simp at t0 t1
            have T0 := kide t0
            have T1 := kide t1
            have FIN := kide (Gs.out.fin HR.out (by have := HWL.out; have := HNN.out; omega) (by have := HWL.out; have := HNN.out; omega) (by have := HN2.out; simp; omega))
            clear t0 t1 t9
            go_wp2_with fail
            have t0 := T0.out
            have t1 := T1.out
            exact bodyPost_ret (v := .agg #[Value.slice (some ⟨g1, 0, none⟩) k cp1, Value.slice (some ⟨g8, 0, none⟩) (n2 + 1) cap8]) (by simp [results, Try.results46, go_sem, t0, t1]) rfl FIN.out
          by_cases h1 : x4 = 1
          · subst h1
            have i9 : (0 : Int) < (k : Int) := by have := HK.out; omega
            have i8 : ¬ k = 0 := by omega
            have c0 := G4.out.xb.cell 0
            have c1 := G4.out.xb.cell 1
            have lx := G4.out.xb.lt
            simp at c0 c1
            go_wp2_with fail
            refine wp_region_x (SA := fun _ => False) (SB := fun uu => uu.cell? ⟨w.heap.size + 1, 1, none⟩ = some (Value.slice a2 n2 c2) ∧ uu.cell? ⟨w.heap.size + 1, 0, none⟩ = some (Value.slice (some ⟨g1, 0, none⟩) k cp1)) (k := 999) (by kernel_rfl) ?_
            have hbd : Below w4.heap.size w4 w4.drew := (Below.refl _ _).drew
            have Gd := kide (G4.out.later hbd)
            clear hbd c0 c1 lx
            generalize w4.drew = m0 at *
            have c0_0 : m0.cell? ⟨w.heap.size + 1, 1, none⟩ = some (Value.slice a2 n2 c2) := Gd.out.xb.cell 1
            have c1_0 : m0.cell? ⟨w.heap.size + 1, 0, none⟩ = some (Value.slice (some ⟨g1, 0, none⟩) k cp1) := Gd.out.xb.cell 0
            have hs0 : Hid ((fun uu => uu.cell? ⟨w.heap.size + 1, 1, none⟩ = some (Value.slice a2 n2 c2) ∧ uu.cell? ⟨w.heap.size + 1, 0, none⟩ = some (Value.slice (some ⟨g1, 0, none⟩) k cp1)) m0) := ⟨c0_0, c1_0⟩
            try go_simp
            refine wpAnyX_both (T := (fun _ => True)) (i := 0) (v := Value.pointer (some ⟨w.heap.size + 1, 0, none⟩)) rfl (by kernel_rfl) (by kernel_rfl) (by kernel_rfl) (fun _ _ _ h => by first | exact h | exact h.elim) (by decide) (fun _ _ => trivial) (fun _ _ => trivial) (Sx.behind (by kernel_rfl) hs0.out) (Or.inl ⟨by rfl, fun uu hu => by go_simp⟩) ?_
            try go_simp
            refine wpAnyX_both (T := (fun uu => uu.cell? ⟨w.heap.size + 1, 1, none⟩ = some (Value.slice a2 n2 c2) ∧ uu.cell? ⟨w.heap.size + 1, 0, none⟩ = some (Value.slice (some ⟨g1, 0, none⟩) k cp1))) (i := 1) (v := Value.slice (some ⟨g1, 0, none⟩) k cp1) rfl (by kernel_rfl) (by kernel_rfl) (by kernel_rfl) (fun _ _ _ h => by first | exact h | exact h.elim) (by decide) (fun _ h => h.elim) (fun _ h => h) (Sx.behind (by kernel_rfl) hs0.out) (Or.inl ⟨by rfl, fun uu hu => by obtain ⟨e0, e1⟩ := hu; go_simp⟩) ?_
            try go_simp
            refine wpAnyX_both (T := (fun _ => True)) (i := 2) (v := Value.pointer (some ⟨β, 0, none⟩)) rfl (by kernel_rfl) (by kernel_rfl) (by kernel_rfl) (fun _ _ _ h => by first | exact h | exact h.elim) (by decide) (fun _ _ => trivial) (fun _ _ => trivial) (Sx.behind (by kernel_rfl) hs0.out) (Or.inl ⟨by rfl, fun uu hu => by go_simp⟩) ?_
            try go_simp
            refine wpAnyX_ready (rs := [3]) (by kernel_rfl) (by simp) (AllX.cons rfl (fun K hK => ?_) AllX.nil)
            go_simp
            refine Calls.mono (off_any 1 4096 (by omega) (by omega) β a c bs _ Gd.out.core.rr) ?_
            rintro e m1 ⟨x9, rfl, hx9, hx10, hr9, hd9⟩
            have Gw := kide (Gd.out.far HB.out hd9 hr9)
            clear hr9 hd9 Gd
            have c0_1 : m1.cell? ⟨w.heap.size + 1, 1, none⟩ = some (Value.slice a2 n2 c2) := Gw.out.xb.cell 1
            have c1_1 : m1.cell? ⟨w.heap.size + 1, 0, none⟩ = some (Value.slice (some ⟨g1, 0, none⟩) k cp1) := Gw.out.xb.cell 0
            have hs1 : Hid ((fun uu => uu.cell? ⟨w.heap.size + 1, 1, none⟩ = some (Value.slice a2 n2 c2) ∧ uu.cell? ⟨w.heap.size + 1, 0, none⟩ = some (Value.slice (some ⟨g1, 0, none⟩) k cp1)) m1) := ⟨c0_1, c1_1⟩
            refine hK _ _ (Sx.behind (by kernel_rfl) hs1.out) ?_
            clear hK K
            try go_simp
            refine wpAnyX_both (T := (fun _ => True)) (i := 4) (v := Value.pointer (some ⟨g1, 0, none⟩)) rfl (by kernel_rfl) (by kernel_rfl) (by kernel_rfl) (fun _ _ _ h => by first | exact h | exact h.elim) (by decide) (fun _ _ => trivial) (fun _ _ => trivial) (Sx.behind (by kernel_rfl) hs1.out) (Or.inl ⟨by rfl, fun uu hu => by go_simp⟩) ?_
            try go_simp
            refine wpAnyX_ready (rs := [5]) (by kernel_rfl) (by simp) (AllX.cons rfl (fun K hK => ?_) AllX.nil)
            have hlk : 0 < ws.length := by have := HWL.out; have := HNN.out; omega
            have e0 := Gw.out.core.wid.cellO (i := 0) hlk
            have f0 := Gw.out.core.wid.frozO 0
            go_simp
            have Gs := kide (Gw.out.setW HR.out (i := 0) hlk (x := x9) ⟨hx9, hx10⟩)
            clear e0 f0 hlk
            generalize m1.setCell ⟨g1, 0, none⟩ (.int .i64 x9) = m2 at *
            have c0_2 : m2.cell? ⟨w.heap.size + 1, 1, none⟩ = some (Value.slice a2 n2 c2) := Gs.out.xb.cell 1
            have c1_2 : m2.cell? ⟨w.heap.size + 1, 0, none⟩ = some (Value.slice (some ⟨g1, 0, none⟩) k cp1) := Gs.out.xb.cell 0
            have hs2 : Hid ((fun uu => uu.cell? ⟨w.heap.size + 1, 1, none⟩ = some (Value.slice a2 n2 c2) ∧ uu.cell? ⟨w.heap.size + 1, 0, none⟩ = some (Value.slice (some ⟨g1, 0, none⟩) k cp1)) m2) := ⟨c0_2, c1_2⟩
            refine hK _ _ (Sx.behind (by kernel_rfl) hs2.out) ?_
            clear hK K
            try go_simp
            refine wpAnyX_done (by kernel_rfl) ?_ _
            have r0 := Gs.out.rb.cell 0
            have r1 := Gs.out.rb.cell 1
            have f0 := Gs.out.rb.froz 0
            have f1 := Gs.out.rb.froz 1
            have g0 := Gs.out.xb.cell 0
            have g1' := Gs.out.xb.cell 1
            simp at r0 r1 g0 g1'
            have t9 := Gs.out.rb.set 0 (Value.slice (some ⟨g1, 0, none⟩) k cp1)
            have t0 := (t9.set 1 (Value.slice a2 n2 c2)).cell 0
            have t1 := (t9.set 1 (Value.slice a2 n2 c2)).cell 1
            simp at t0 t1
            have T0 := kide t0
            have T1 := kide t1
            have FIN := kide (Gs.out.fin HR.out (by have := HWL.out; have := HNN.out; simp; omega) (by have := HWL.out; have := HNN.out; simp; omega) (by have := HN2.out; omega))
            clear t0 t1 t9
            go_wp2_with fail
            have t0 := T0.out
            have t1 := T1.out
            exact bodyPost_ret (v := .agg #[Value.slice (some ⟨g1, 0, none⟩) k cp1, Value.slice a2 n2 c2]) (by simp [results, Try.results46, go_sem, t0, t1]) rfl FIN.out
          by_cases h2 : x4 = 2
          · subst h2
            go_wp2_with fail
            refine Calls.mono (belowJ 2 (by omega) (by omega) G4.out.core.rr) ?_
            rintro e w5 ⟨x5, rfl, hx5, hr5, hd5⟩
            have G5 := kide (G4.out.far HB.out hd5 hr5)
            obtain ⟨M, hM⟩ : ∃ M : Nat, 200 + (x5 : Int) = (M : Int) := ⟨200 + x5, by omega⟩
            have HM : Hid (200 ≤ M ∧ M ≤ 201) := by show _ ∧ _; omega
            have hmk := fun kl kc u => make_i64s M (by omega) kl kc u
            have hM6 : -9223372036854775808 ≤ 200 + (x5 : Int) ∧ 200 + (x5 : Int) ≤ 9223372036854775807 := by omega
            clear hr5 hd5 hx5 G4
            obtain ⟨g6, x6⟩ := G5.out.newW HR.out M (by have := HM.out; omega)
            have e0 := x6.cell 0
            have f0 := x6.froz 0
            simp at e0
            have G6 := kide g6
            clear g6 x6
            go_wp2_with fail
            obtain ⟨g2, hg2⟩ : ∃ g2, w5.heap.size = g2 := ⟨_, rfl⟩
            rw [hg2] at G6
            try simp only [hg2]
            generalize (w5.alloc (.cells (madeCells #[.int .i64 0] M) 2)).setCell ⟨w.heap.size + 1, 0, none⟩ (.slice (some ⟨g2, 0, none⟩) M M) = w6 at *
            clear e0 f0 hg2 hmk hM hM6
            go_loopw [10] (fun i wr => ∃ (q : Nat) (ws6 : List Int), q ≤ M ∧ i = .int .i64 (q : Int) ∧ ws6.length = M ∧ Gf w wr β a c bs (.slice (some ⟨g2, 0, none⟩) M M) ws6 (.slice a2 n2 c2) ys) (fun i _ => M - (intOf i).toNat)
            case atStart => exact ⟨0, _, Nat.zero_le _, rfl, by simp, G6.out⟩
            case round =>
              obtain ⟨q, ws6, hq, rfl, hw6, hg6⟩ := hrel
              have GQ6 := kide hg6
              have HW6 := kide hw6
              have c0 := hg6.xb.cell 0
              simp at c0
              have lx := hg6.xb.lt
              clear hg6 hw6
              by_cases hqm : q < M
              · have i3 : (q : Int) < (M : Int) := by omega
                have hlk : q < ws6.length := by rw [HW6.out]; exact hqm
                have e0 := GQ6.out.core.wid.cellO (i := q) hlk
                have f0 := GQ6.out.core.wid.frozO q
                have Gs := kide (GQ6.out.setW HR.out (i := q) hlk (x := 1) (by unfold in64; omega))
                have HQM : Hid (q < M) := hqm
                have hq2 : (q : Int) ≤ 200 := by have := HM.out; omega
                clear hq hqm hlk
                go_wp2_with fail
                go_roundw
                case rel => exact ⟨q + 1, ws6.set q 1, HQM.out, by go_num, by rw [List.length_set]; exact HW6.out, Gs.out⟩
                case measure => have := HQM.out; simp only [intOf]; omega
              · have i3 : ¬ (q : Int) < (M : Int) := by omega
                have e1 := GQ6.out.xb.cell 1
                have f1 := GQ6.out.xb.froz 1
                simp at e1
                have Gn := kide (GQ6.out.nilB HR.out)
                clear hq hqm
                obtain ⟨wn, hwn⟩ : ∃ wn, wr.setCell ⟨w.heap.size + 1, 1, none⟩ (.slice none 0 0) = wn := ⟨_, rfl⟩
                rw [hwn] at Gn
                have r0 := Gn.out.rb.cell 0
                have r1 := Gn.out.rb.cell 1
                have f0 := Gn.out.rb.froz 0
                have f1 := Gn.out.rb.froz 1
                have g0 := Gn.out.xb.cell 0
                have g1' := Gn.out.xb.cell 1
                simp at r0 r1 g0 g1'
                have t9 := Gn.out.rb.set 0 (Value.slice (some ⟨g2, 0, none⟩) M M)
                have t0 := (t9.set 1 (Value.slice none 0 0)).cell 0
                have t1 := (t9.set 1 (Value.slice none 0 0)).cell 1
                simp at t0 t1
                have T0 := kide t0
                have T1 := kide t1
                have FIN := kide (Gn.out.fin HR.out (by have := HW6.out; have := HM.out; omega) (by have := HW6.out; have := HM.out; omega) (by simp))
                clear t0 t1 t9
                go_wp2_with fail
                have t0 := T0.out
                have t1 := T1.out
                exact bodyPost_ret (v := .agg #[Value.slice (some ⟨g2, 0, none⟩) M M, Value.slice none 0 0]) (by simp [results, Try.results46, go_sem, t0, t1]) rfl FIN.out
          by_cases h3 : x4 = 3
          · subst h3
            have HL0 : Hid (0 < ws.length) := by show _ < _; have := HWL.out; have := HK.out; omega
            obtain ⟨u0, hu0⟩ : ∃ u0, ws.getD 0 0 = u0 := ⟨_, rfl⟩
            have HU0 := kide hu0
            clear hu0
            go_wp2_with fail
            go_loopg [] (1001 - n2) (fun g wr => ∃ (a3 : Option Addr) (n3 c3 : Nat) (ys3 : List Yg), ys3.length = n3 ∧ n3 ≤ 1001 ∧ 1001 - n3 ≤ g ∧ Gf w wr β a c bs (.slice (some ⟨g1, 0, none⟩) k cp1) ws (.slice a3 n3 c3) ys3)
            case atStart => exact ⟨_, _, _, ys, HN2.out.1, by have := HN2.out; omega, Nat.le_refl _, G4.out⟩
            case round =>
              obtain ⟨a3, n3, c3, ys3, hn3, hn31, hgg, hgf⟩ := hrel
              have GQ := kide hgf
              have HN3 := kide (And.intro hn3 (And.intro hn31 hgg))
              clear hgf hn3 hn31 hgg G4
              by_cases hk1 : k ≤ 1
              · have i5 : ¬ (k : Int) > 1 := by omega
                have i6 : ¬ 1 < k := by omega
                go_wp2_with fail
                refine wp_region_x (SA := fun _ => False) (SB := fun uu => uu.cell? ⟨w.heap.size + 1, 1, none⟩ = some (Value.slice a3 n3 c3) ∧ uu.cell? ⟨w.heap.size + 1, 0, none⟩ = some (Value.slice (some ⟨g1, 0, none⟩) k cp1) ∧ uu.cell? ⟨g1, 0, none⟩ = some (Value.int .i64 u0)) (k := 999) (by kernel_rfl) ?_
                have hbd : Below wr.heap.size wr wr.drew := (Below.refl _ _).drew
                have Gd := kide (GQ.out.later hbd)
                clear hbd
                generalize wr.drew = m0 at *
                have c0_0 : m0.cell? ⟨w.heap.size + 1, 1, none⟩ = some (Value.slice a3 n3 c3) := Gd.out.xb.cell 1
                have c1_0 : m0.cell? ⟨w.heap.size + 1, 0, none⟩ = some (Value.slice (some ⟨g1, 0, none⟩) k cp1) := Gd.out.xb.cell 0
                have c2_0 : m0.cell? ⟨g1, 0, none⟩ = some (Value.int .i64 u0) := by rw [← HU0.out]; exact Gd.out.core.wid.cellO HL0.out
                have hs0 : Hid ((fun uu => uu.cell? ⟨w.heap.size + 1, 1, none⟩ = some (Value.slice a3 n3 c3) ∧ uu.cell? ⟨w.heap.size + 1, 0, none⟩ = some (Value.slice (some ⟨g1, 0, none⟩) k cp1) ∧ uu.cell? ⟨g1, 0, none⟩ = some (Value.int .i64 u0)) m0) := ⟨c0_0, c1_0, c2_0⟩
                try go_simp
                refine wpAnyX_both (T := (fun _ => True)) (i := 0) (v := Value.pointer (some ⟨w.heap.size + 1, 1, none⟩)) rfl (by kernel_rfl) (by kernel_rfl) (by kernel_rfl) (fun _ _ _ h => by first | exact h | exact h.elim) (by decide) (fun _ _ => trivial) (fun _ _ => trivial) (Sx.behind (by kernel_rfl) hs0.out) (Or.inl ⟨by rfl, fun uu hu => by go_simp⟩) ?_
                try go_simp
                refine wpAnyX_both (T := (fun uu => uu.cell? ⟨w.heap.size + 1, 1, none⟩ = some (Value.slice a3 n3 c3) ∧ uu.cell? ⟨w.heap.size + 1, 0, none⟩ = some (Value.slice (some ⟨g1, 0, none⟩) k cp1) ∧ uu.cell? ⟨g1, 0, none⟩ = some (Value.int .i64 u0))) (i := 1) (v := Value.slice a3 n3 c3) rfl (by kernel_rfl) (by kernel_rfl) (by kernel_rfl) (fun _ _ _ h => by first | exact h | exact h.elim) (by decide) (fun _ h => h.elim) (fun _ h => h) (Sx.behind (by kernel_rfl) hs0.out) (Or.inl ⟨by rfl, fun uu hu => by obtain ⟨e0, e1, e2⟩ := hu; go_simp⟩) ?_
                try go_simp
                refine wpAnyX_both (T := (fun _ => True)) (i := 2) (v := Value.int .i64 (n3 : Int)) rfl (by kernel_rfl) (by kernel_rfl) (by kernel_rfl) (fun _ _ _ h => by first | exact h | exact h.elim) (by decide) (fun _ _ => trivial) (fun _ _ => trivial) (Sx.behind (by kernel_rfl) hs0.out) (Or.inl ⟨by rfl, fun uu hu => by go_simp⟩) ?_
                try go_simp
                refine wpAnyX_both (T := (fun _ => True)) (i := 3) (v := Value.pointer (some ⟨β, 0, none⟩)) rfl (by kernel_rfl) (by kernel_rfl) (by kernel_rfl) (fun _ _ _ h => by first | exact h | exact h.elim) (by decide) (fun _ _ => trivial) (fun _ _ => trivial) (Sx.behind (by kernel_rfl) hs0.out) (Or.inl ⟨by rfl, fun uu hu => by go_simp⟩) ?_
                try go_simp
                refine wpAnyX_ready (rs := [4]) (by kernel_rfl) (by simp) (AllX.cons rfl (fun K hK => ?_) AllX.nil)
                go_simp
                refine Calls.mono (belowJ 2 (by omega) (by omega) Gd.out.core.rr) ?_
                rintro e m1 ⟨x5, rfl, hx5, hr5, hd5⟩
                have Gw := kide (Gd.out.far HB.out hd5 hr5)
                have hx51 : (x5 : Int) ≤ 1 := by omega
                have hw5 : IntKind.i64.wrap (1000 + (x5 : Int)) = 1000 + (x5 : Int) := by rw [IntKind.wrap_i64] <;> omega
                clear hr5 hd5 Gd hx5
                have c0_1 : m1.cell? ⟨w.heap.size + 1, 1, none⟩ = some (Value.slice a3 n3 c3) := Gw.out.xb.cell 1
                have c1_1 : m1.cell? ⟨w.heap.size + 1, 0, none⟩ = some (Value.slice (some ⟨g1, 0, none⟩) k cp1) := Gw.out.xb.cell 0
                have c2_1 : m1.cell? ⟨g1, 0, none⟩ = some (Value.int .i64 u0) := by rw [← HU0.out]; exact Gw.out.core.wid.cellO HL0.out
                have hs1 : Hid ((fun uu => uu.cell? ⟨w.heap.size + 1, 1, none⟩ = some (Value.slice a3 n3 c3) ∧ uu.cell? ⟨w.heap.size + 1, 0, none⟩ = some (Value.slice (some ⟨g1, 0, none⟩) k cp1) ∧ uu.cell? ⟨g1, 0, none⟩ = some (Value.int .i64 u0)) m1) := ⟨c0_1, c1_1, c2_1⟩
                refine hK _ _ (Sx.behind (by kernel_rfl) hs1.out) ?_
                clear hK K
                try go_simp
                by_cases hA : ¬ (n3 : Int) < 1000 + (x5 : Int)
                · refine wpAnyX_both (T := (fun _ => True)) (i := 5) (v := Value.int .i64 (1000 + (x5 : Int))) rfl (by kernel_rfl) (by kernel_rfl) (by kernel_rfl) (fun _ _ _ h => by first | exact h | exact h.elim) (by decide) (fun _ _ => trivial) (fun _ _ => trivial) (Sx.behind (by kernel_rfl) hs1.out) (Or.inl ⟨by rfl, fun uu hu => by go_simp⟩) ?_
                  try go_simp
                  refine wpAnyX_both (T := (fun _ => True)) (i := 6) (v := Value.bool false) rfl (by kernel_rfl) (by kernel_rfl) (by kernel_rfl) (fun _ _ _ h => by first | exact h | exact h.elim) (by decide) (fun _ _ => trivial) (fun _ _ => trivial) (Sx.behind (by kernel_rfl) hs1.out) (Or.inl ⟨by rfl, fun uu hu => by go_simp⟩) ?_
                  try go_simp
                  refine wpAnyX_both (T := (fun _ => True)) (i := 7) (v := Value.bool false) rfl (by kernel_rfl) (by kernel_rfl) (by kernel_rfl) (fun _ _ _ h => by first | exact h | exact h.elim) (by decide) (fun _ _ => trivial) (fun _ _ => trivial) (Sx.behind (by kernel_rfl) hs1.out) (Or.inl ⟨by rfl, fun uu hu => by go_simp⟩) ?_
                  try go_simp
                  refine wpAnyX_both (T := (fun _ => True)) (i := 8) (v := undef) rfl (by kernel_rfl) (by kernel_rfl) (by kernel_rfl) (fun _ _ _ h => by first | exact h | exact h.elim) (by decide) (fun _ _ => trivial) (fun _ _ => trivial) (Sx.behind (by kernel_rfl) hs1.out) (Or.inr ⟨by rfl, rfl⟩) ?_
                  try go_simp
                  refine wpAnyX_both (T := (fun _ => True)) (i := 9) (v := undef) rfl (by kernel_rfl) (by kernel_rfl) (by kernel_rfl) (fun _ _ _ h => by first | exact h | exact h.elim) (by decide) (fun _ _ => trivial) (fun _ _ => trivial) (Sx.behind (by kernel_rfl) hs1.out) (Or.inr ⟨by rfl, rfl⟩) ?_
                  try go_simp
                  refine wpAnyX_both (T := (fun _ => True)) (i := 10) (v := Value.bool false) rfl (by kernel_rfl) (by kernel_rfl) (by kernel_rfl) (fun _ _ _ h => by first | exact h | exact h.elim) (by decide) (fun _ _ => trivial) (fun _ _ => trivial) (Sx.behind (by kernel_rfl) hs1.out) (Or.inl ⟨by rfl, fun uu hu => by go_simp⟩) ?_
                  try go_simp
                  refine wpAnyX_both (T := (fun _ => True)) (i := 11) (v := Value.bool false) rfl (by kernel_rfl) (by kernel_rfl) (by kernel_rfl) (fun _ _ _ h => by first | exact h | exact h.elim) (by decide) (fun _ _ => trivial) (fun _ _ => trivial) (Sx.behind (by kernel_rfl) hs1.out) (Or.inl ⟨by rfl, fun uu hu => by go_simp⟩) ?_
                  try go_simp
                  refine wpAnyX_both (T := (fun _ => True)) (i := 12) (v := undef) rfl (by kernel_rfl) (by kernel_rfl) (by kernel_rfl) (fun _ _ _ h => by first | exact h | exact h.elim) (by decide) (fun _ _ => trivial) (fun _ _ => trivial) (Sx.behind (by kernel_rfl) hs1.out) (Or.inr ⟨by rfl, rfl⟩) ?_
                  try go_simp
                  refine wpAnyX_both (T := (fun _ => True)) (i := 13) (v := undef) rfl (by kernel_rfl) (by kernel_rfl) (by kernel_rfl) (fun _ _ _ h => by first | exact h | exact h.elim) (by decide) (fun _ _ => trivial) (fun _ _ => trivial) (Sx.behind (by kernel_rfl) hs1.out) (Or.inr ⟨by rfl, rfl⟩) ?_
                  try go_simp
                  refine wpAnyX_both (T := (fun _ => True)) (i := 14) (v := undef) rfl (by kernel_rfl) (by kernel_rfl) (by kernel_rfl) (fun _ _ _ h => by first | exact h | exact h.elim) (by decide) (fun _ _ => trivial) (fun _ _ => trivial) (Sx.behind (by kernel_rfl) hs1.out) (Or.inr ⟨by rfl, rfl⟩) ?_
                  try go_simp
                  refine wpAnyX_both (T := (fun _ => True)) (i := 15) (v := undef) rfl (by kernel_rfl) (by kernel_rfl) (by kernel_rfl) (fun _ _ _ h => by first | exact h | exact h.elim) (by decide) (fun _ _ => trivial) (fun _ _ => trivial) (Sx.behind (by kernel_rfl) hs1.out) (Or.inr ⟨by rfl, rfl⟩) ?_
                  try go_simp
                  refine wpAnyX_both (T := (fun _ => True)) (i := 16) (v := undef) rfl (by kernel_rfl) (by kernel_rfl) (by kernel_rfl) (fun _ _ _ h => by first | exact h | exact h.elim) (by decide) (fun _ _ => trivial) (fun _ _ => trivial) (Sx.behind (by kernel_rfl) hs1.out) (Or.inr ⟨by rfl, rfl⟩) ?_
                  try go_simp
                  refine wpAnyX_both (T := (fun _ => True)) (i := 17) (v := undef) rfl (by kernel_rfl) (by kernel_rfl) (by kernel_rfl) (fun _ _ _ h => by first | exact h | exact h.elim) (by decide) (fun _ _ => trivial) (fun _ _ => trivial) (Sx.behind (by kernel_rfl) hs1.out) (Or.inr ⟨by rfl, rfl⟩) ?_
                  try go_simp
                  refine wpAnyX_both (T := (fun _ => True)) (i := 18) (v := undef) rfl (by kernel_rfl) (by kernel_rfl) (by kernel_rfl) (fun _ _ _ h => by first | exact h | exact h.elim) (by decide) (fun _ _ => trivial) (fun _ _ => trivial) (Sx.behind (by kernel_rfl) hs1.out) (Or.inr ⟨by rfl, rfl⟩) ?_
                  try go_simp
                  refine wpAnyX_both (T := (fun _ => True)) (i := 19) (v := undef) rfl (by kernel_rfl) (by kernel_rfl) (by kernel_rfl) (fun _ _ _ h => by first | exact h | exact h.elim) (by decide) (fun _ _ => trivial) (fun _ _ => trivial) (Sx.behind (by kernel_rfl) hs1.out) (Or.inr ⟨by rfl, rfl⟩) ?_
                  try go_simp
                  refine wpAnyX_both (T := (fun _ => True)) (i := 20) (v := undef) rfl (by kernel_rfl) (by kernel_rfl) (by kernel_rfl) (fun _ _ _ h => by first | exact h | exact h.elim) (by decide) (fun _ _ => trivial) (fun _ _ => trivial) (Sx.behind (by kernel_rfl) hs1.out) (Or.inr ⟨by rfl, rfl⟩) ?_
                  try go_simp
                  refine wpAnyX_both (T := (fun _ => True)) (i := 21) (v := Value.bool false) rfl (by kernel_rfl) (by kernel_rfl) (by kernel_rfl) (fun _ _ _ h => by first | exact h | exact h.elim) (by decide) (fun _ _ => trivial) (fun _ _ => trivial) (Sx.behind (by kernel_rfl) hs1.out) (Or.inl ⟨by rfl, fun uu hu => by go_simp⟩) ?_
                  try go_simp
                  refine wpAnyX_done (by kernel_rfl) ?_ _
                  have r0 := Gw.out.rb.cell 0
                  have r1 := Gw.out.rb.cell 1
                  have f0 := Gw.out.rb.froz 0
                  have f1 := Gw.out.rb.froz 1
                  have g0 := Gw.out.xb.cell 0
                  have g1' := Gw.out.xb.cell 1
                  simp at r0 r1 g0 g1'
                  have t9 := Gw.out.rb.set 0 (Value.slice (some ⟨g1, 0, none⟩) k cp1)
                  have t0 := (t9.set 1 (Value.slice a3 n3 c3)).cell 0
                  have t1 := (t9.set 1 (Value.slice a3 n3 c3)).cell 1
                  simp at t0 t1
                  have T0 := kide t0
                  have T1 := kide t1
                  have FIN := kide (Gw.out.fin HR.out (by have := HWL.out; have := HNN.out; omega) (by have := HWL.out; have := HNN.out; omega) (by have := HN3.out; omega))
                  clear t0 t1 t9
                  go_wp2_with fail
                  have t0 := T0.out
                  have t1 := T1.out
                  exact bodyPost_ret (v := .agg #[Value.slice (some ⟨g1, 0, none⟩) k cp1, Value.slice a3 n3 c3]) (by simp [results, Try.results46, go_sem, t0, t1]) rfl FIN.out
                have hA2 : (n3 : Int) < 1000 + (x5 : Int) := by omega
                clear hA
                refine wpAnyX_both (T := (fun _ => True)) (i := 5) (v := Value.int .i64 (1000 + (x5 : Int))) rfl (by kernel_rfl) (by kernel_rfl) (by kernel_rfl) (fun _ _ _ h => by first | exact h | exact h.elim) (by decide) (fun _ _ => trivial) (fun _ _ => trivial) (Sx.behind (by kernel_rfl) hs1.out) (Or.inl ⟨by rfl, fun uu hu => by go_simp⟩) ?_
                try go_simp
                refine wpAnyX_both (T := (fun _ => True)) (i := 6) (v := Value.bool true) rfl (by kernel_rfl) (by kernel_rfl) (by kernel_rfl) (fun _ _ _ h => by first | exact h | exact h.elim) (by decide) (fun _ _ => trivial) (fun _ _ => trivial) (Sx.behind (by kernel_rfl) hs1.out) (Or.inl ⟨by rfl, fun uu hu => by go_simp⟩) ?_
                try go_simp
                refine wpAnyX_both (T := (fun _ => True)) (i := 7) (v := Value.bool true) rfl (by kernel_rfl) (by kernel_rfl) (by kernel_rfl) (fun _ _ _ h => by first | exact h | exact h.elim) (by decide) (fun _ _ => trivial) (fun _ _ => trivial) (Sx.behind (by kernel_rfl) hs1.out) (Or.inl ⟨by rfl, fun uu hu => by go_simp⟩) ?_
                try go_simp
                refine wpAnyX_both (T := (fun _ => True)) (i := 8) (v := Value.int .i64 (k : Int)) rfl (by kernel_rfl) (by kernel_rfl) (by kernel_rfl) (fun _ _ _ h => by first | exact h | exact h.elim) (by decide) (fun _ _ => trivial) (fun _ _ => trivial) (Sx.behind (by kernel_rfl) hs1.out) (Or.inl ⟨by rfl, fun uu hu => by go_simp⟩) ?_
                try go_simp
                refine wpAnyX_both (T := (fun _ => True)) (i := 9) (v := Value.bool false) rfl (by kernel_rfl) (by kernel_rfl) (by kernel_rfl) (fun _ _ _ h => by first | exact h | exact h.elim) (by decide) (fun _ _ => trivial) (fun _ _ => trivial) (Sx.behind (by kernel_rfl) hs1.out) (Or.inl ⟨by rfl, fun uu hu => by go_simp⟩) ?_
                try go_simp
                refine wpAnyX_both (T := (fun _ => True)) (i := 10) (v := Value.bool false) rfl (by kernel_rfl) (by kernel_rfl) (by kernel_rfl) (fun _ _ _ h => by first | exact h | exact h.elim) (by decide) (fun _ _ => trivial) (fun _ _ => trivial) (Sx.behind (by kernel_rfl) hs1.out) (Or.inl ⟨by rfl, fun uu hu => by go_simp⟩) ?_
                try go_simp
                refine wpAnyX_both (T := (fun _ => True)) (i := 11) (v := Value.bool false) rfl (by kernel_rfl) (by kernel_rfl) (by kernel_rfl) (fun _ _ _ h => by first | exact h | exact h.elim) (by decide) (fun _ _ => trivial) (fun _ _ => trivial) (Sx.behind (by kernel_rfl) hs1.out) (Or.inl ⟨by rfl, fun uu hu => by go_simp⟩) ?_
                try go_simp
                refine wpAnyX_both (T := (fun _ => True)) (i := 12) (v := undef) rfl (by kernel_rfl) (by kernel_rfl) (by kernel_rfl) (fun _ _ _ h => by first | exact h | exact h.elim) (by decide) (fun _ _ => trivial) (fun _ _ => trivial) (Sx.behind (by kernel_rfl) hs1.out) (Or.inr ⟨by rfl, rfl⟩) ?_
                try go_simp
                refine wpAnyX_both (T := (fun _ => True)) (i := 13) (v := undef) rfl (by kernel_rfl) (by kernel_rfl) (by kernel_rfl) (fun _ _ _ h => by first | exact h | exact h.elim) (by decide) (fun _ _ => trivial) (fun _ _ => trivial) (Sx.behind (by kernel_rfl) hs1.out) (Or.inr ⟨by rfl, rfl⟩) ?_
                try go_simp
                refine wpAnyX_both (T := (fun _ => True)) (i := 14) (v := undef) rfl (by kernel_rfl) (by kernel_rfl) (by kernel_rfl) (fun _ _ _ h => by first | exact h | exact h.elim) (by decide) (fun _ _ => trivial) (fun _ _ => trivial) (Sx.behind (by kernel_rfl) hs1.out) (Or.inr ⟨by rfl, rfl⟩) ?_
                try go_simp
                refine wpAnyX_both (T := (fun _ => True)) (i := 15) (v := undef) rfl (by kernel_rfl) (by kernel_rfl) (by kernel_rfl) (fun _ _ _ h => by first | exact h | exact h.elim) (by decide) (fun _ _ => trivial) (fun _ _ => trivial) (Sx.behind (by kernel_rfl) hs1.out) (Or.inr ⟨by rfl, rfl⟩) ?_
                try go_simp
                refine wpAnyX_both (T := (fun _ => True)) (i := 16) (v := undef) rfl (by kernel_rfl) (by kernel_rfl) (by kernel_rfl) (fun _ _ _ h => by first | exact h | exact h.elim) (by decide) (fun _ _ => trivial) (fun _ _ => trivial) (Sx.behind (by kernel_rfl) hs1.out) (Or.inr ⟨by rfl, rfl⟩) ?_
                try go_simp
                refine wpAnyX_both (T := (fun _ => True)) (i := 17) (v := undef) rfl (by kernel_rfl) (by kernel_rfl) (by kernel_rfl) (fun _ _ _ h => by first | exact h | exact h.elim) (by decide) (fun _ _ => trivial) (fun _ _ => trivial) (Sx.behind (by kernel_rfl) hs1.out) (Or.inr ⟨by rfl, rfl⟩) ?_
                try go_simp
                refine wpAnyX_both (T := (fun _ => True)) (i := 18) (v := undef) rfl (by kernel_rfl) (by kernel_rfl) (by kernel_rfl) (fun _ _ _ h => by first | exact h | exact h.elim) (by decide) (fun _ _ => trivial) (fun _ _ => trivial) (Sx.behind (by kernel_rfl) hs1.out) (Or.inr ⟨by rfl, rfl⟩) ?_
                try go_simp
                refine wpAnyX_both (T := (fun _ => True)) (i := 19) (v := undef) rfl (by kernel_rfl) (by kernel_rfl) (by kernel_rfl) (fun _ _ _ h => by first | exact h | exact h.elim) (by decide) (fun _ _ => trivial) (fun _ _ => trivial) (Sx.behind (by kernel_rfl) hs1.out) (Or.inr ⟨by rfl, rfl⟩) ?_
                try go_simp
                refine wpAnyX_both (T := (fun _ => True)) (i := 20) (v := undef) rfl (by kernel_rfl) (by kernel_rfl) (by kernel_rfl) (fun _ _ _ h => by first | exact h | exact h.elim) (by decide) (fun _ _ => trivial) (fun _ _ => trivial) (Sx.behind (by kernel_rfl) hs1.out) (Or.inr ⟨by rfl, rfl⟩) ?_
                try go_simp
                refine wpAnyX_both (T := (fun _ => True)) (i := 21) (v := Value.bool false) rfl (by kernel_rfl) (by kernel_rfl) (by kernel_rfl) (fun _ _ _ h => by first | exact h | exact h.elim) (by decide) (fun _ _ => trivial) (fun _ _ => trivial) (Sx.behind (by kernel_rfl) hs1.out) (Or.inl ⟨by rfl, fun uu hu => by go_simp⟩) ?_
                try go_simp
                refine wpAnyX_done (by kernel_rfl) ?_ _
                have r0 := Gw.out.rb.cell 0
                have r1 := Gw.out.rb.cell 1
                have f0 := Gw.out.rb.froz 0
                have f1 := Gw.out.rb.froz 1
                have g0 := Gw.out.xb.cell 0
                have g1' := Gw.out.xb.cell 1
                simp at r0 r1 g0 g1'
                have t9 := Gw.out.rb.set 0 (Value.slice (some ⟨g1, 0, none⟩) k cp1)
                have t0 := (t9.set 1 (Value.slice a3 n3 c3)).cell 0
                have t1 := (t9.set 1 (Value.slice a3 n3 c3)).cell 1
                simp at t0 t1
                have T0 := kide t0
                have T1 := kide t1
                have FIN := kide (Gw.out.fin HR.out (by have := HWL.out; have := HNN.out; omega) (by have := HWL.out; have := HNN.out; omega) (by have := HN3.out; omega))
                clear t0 t1 t9
                go_wp2_with fail
                have t0 := T0.out
                have t1 := T1.out
                exact bodyPost_ret (v := .agg #[Value.slice (some ⟨g1, 0, none⟩) k cp1, Value.slice a3 n3 c3]) (by simp [results, Try.results46, go_sem, t0, t1]) rfl FIN.out
              · have HL1 : Hid (1 < ws.length) := by show _ < _; have := HWL.out; omega
                have i5 : (k : Int) > 1 := by omega
                have i7 : ¬ k = 0 := by omega
                have i6 : 1 < k := by omega
                obtain ⟨u1, hu1⟩ : ∃ u1, ws.getD 1 0 = u1 := ⟨_, rfl⟩
                have HU1 := kide hu1
                clear hu1
                by_cases hu : u0 = u1
                · subst hu
                  go_wp2_with fail
                  refine wp_region_x (SA := fun _ => False) (SB := fun uu => uu.cell? ⟨w.heap.size + 1, 1, none⟩ = some (Value.slice a3 n3 c3) ∧ uu.cell? ⟨w.heap.size + 1, 0, none⟩ = some (Value.slice (some ⟨g1, 0, none⟩) k cp1) ∧ uu.cell? ⟨g1, 0, none⟩ = some (Value.int .i64 u0) ∧ uu.cell? ⟨g1, 1, none⟩ = some (Value.int .i64 u0)) (k := 999) (by kernel_rfl) ?_
                  have hbd : Below wr.heap.size wr wr.drew := (Below.refl _ _).drew
                  have Gd := kide (GQ.out.later hbd)
                  clear hbd
                  generalize wr.drew = m0 at *
                  have c0_0 : m0.cell? ⟨w.heap.size + 1, 1, none⟩ = some (Value.slice a3 n3 c3) := Gd.out.xb.cell 1
                  have c1_0 : m0.cell? ⟨w.heap.size + 1, 0, none⟩ = some (Value.slice (some ⟨g1, 0, none⟩) k cp1) := Gd.out.xb.cell 0
                  have c2_0 : m0.cell? ⟨g1, 0, none⟩ = some (Value.int .i64 u0) := by rw [← HU0.out]; exact Gd.out.core.wid.cellO HL0.out
                  have c3_0 : m0.cell? ⟨g1, 1, none⟩ = some (Value.int .i64 u0) := by rw [← HU1.out]; exact Gd.out.core.wid.cellO HL1.out
                  have hs0 : Hid ((fun uu => uu.cell? ⟨w.heap.size + 1, 1, none⟩ = some (Value.slice a3 n3 c3) ∧ uu.cell? ⟨w.heap.size + 1, 0, none⟩ = some (Value.slice (some ⟨g1, 0, none⟩) k cp1) ∧ uu.cell? ⟨g1, 0, none⟩ = some (Value.int .i64 u0) ∧ uu.cell? ⟨g1, 1, none⟩ = some (Value.int .i64 u0)) m0) := ⟨c0_0, c1_0, c2_0, c3_0⟩
                  try go_simp
                  refine wpAnyX_both (T := (fun _ => True)) (i := 0) (v := Value.pointer (some ⟨w.heap.size + 1, 1, none⟩)) rfl (by kernel_rfl) (by kernel_rfl) (by kernel_rfl) (fun _ _ _ h => by first | exact h | exact h.elim) (by decide) (fun _ _ => trivial) (fun _ _ => trivial) (Sx.behind (by kernel_rfl) hs0.out) (Or.inl ⟨by rfl, fun uu hu => by go_simp⟩) ?_
                  try go_simp
                  refine wpAnyX_both (T := (fun uu => uu.cell? ⟨w.heap.size + 1, 1, none⟩ = some (Value.slice a3 n3 c3) ∧ uu.cell? ⟨w.heap.size + 1, 0, none⟩ = some (Value.slice (some ⟨g1, 0, none⟩) k cp1) ∧ uu.cell? ⟨g1, 0, none⟩ = some (Value.int .i64 u0) ∧ uu.cell? ⟨g1, 1, none⟩ = some (Value.int .i64 u0))) (i := 1) (v := Value.slice a3 n3 c3) rfl (by kernel_rfl) (by kernel_rfl) (by kernel_rfl) (fun _ _ _ h => by first | exact h | exact h.elim) (by decide) (fun _ h => h.elim) (fun _ h => h) (Sx.behind (by kernel_rfl) hs0.out) (Or.inl ⟨by rfl, fun uu hu => by obtain ⟨e0, e1, e2, e3⟩ := hu; go_simp⟩) ?_
                  try go_simp
                  refine wpAnyX_both (T := (fun _ => True)) (i := 2) (v := Value.int .i64 (n3 : Int)) rfl (by kernel_rfl) (by kernel_rfl) (by kernel_rfl) (fun _ _ _ h => by first | exact h | exact h.elim) (by decide) (fun _ _ => trivial) (fun _ _ => trivial) (Sx.behind (by kernel_rfl) hs0.out) (Or.inl ⟨by rfl, fun uu hu => by go_simp⟩) ?_
                  try go_simp
                  refine wpAnyX_both (T := (fun _ => True)) (i := 3) (v := Value.pointer (some ⟨β, 0, none⟩)) rfl (by kernel_rfl) (by kernel_rfl) (by kernel_rfl) (fun _ _ _ h => by first | exact h | exact h.elim) (by decide) (fun _ _ => trivial) (fun _ _ => trivial) (Sx.behind (by kernel_rfl) hs0.out) (Or.inl ⟨by rfl, fun uu hu => by go_simp⟩) ?_
                  try go_simp
                  refine wpAnyX_ready (rs := [4]) (by kernel_rfl) (by simp) (AllX.cons rfl (fun K hK => ?_) AllX.nil)
                  go_simp
                  refine Calls.mono (belowJ 2 (by omega) (by omega) Gd.out.core.rr) ?_
                  rintro e m1 ⟨x5, rfl, hx5, hr5, hd5⟩
                  have Gw := kide (Gd.out.far HB.out hd5 hr5)
                  have hx51 : (x5 : Int) ≤ 1 := by omega
                  have hw5 : IntKind.i64.wrap (1000 + (x5 : Int)) = 1000 + (x5 : Int) := by rw [IntKind.wrap_i64] <;> omega
                  clear hr5 hd5 Gd hx5
                  have c0_1 : m1.cell? ⟨w.heap.size + 1, 1, none⟩ = some (Value.slice a3 n3 c3) := Gw.out.xb.cell 1
                  have c1_1 : m1.cell? ⟨w.heap.size + 1, 0, none⟩ = some (Value.slice (some ⟨g1, 0, none⟩) k cp1) := Gw.out.xb.cell 0
                  have c2_1 : m1.cell? ⟨g1, 0, none⟩ = some (Value.int .i64 u0) := by rw [← HU0.out]; exact Gw.out.core.wid.cellO HL0.out
                  have c3_1 : m1.cell? ⟨g1, 1, none⟩ = some (Value.int .i64 u0) := by rw [← HU1.out]; exact Gw.out.core.wid.cellO HL1.out
                  have hs1 : Hid ((fun uu => uu.cell? ⟨w.heap.size + 1, 1, none⟩ = some (Value.slice a3 n3 c3) ∧ uu.cell? ⟨w.heap.size + 1, 0, none⟩ = some (Value.slice (some ⟨g1, 0, none⟩) k cp1) ∧ uu.cell? ⟨g1, 0, none⟩ = some (Value.int .i64 u0) ∧ uu.cell? ⟨g1, 1, none⟩ = some (Value.int .i64 u0)) m1) := ⟨c0_1, c1_1, c2_1, c3_1⟩
                  refine hK _ _ (Sx.behind (by kernel_rfl) hs1.out) ?_
                  clear hK K
                  try go_simp
                  by_cases hA : ¬ (n3 : Int) < 1000 + (x5 : Int)
                  · refine wpAnyX_both (T := (fun _ => True)) (i := 5) (v := Value.int .i64 (1000 + (x5 : Int))) rfl (by kernel_rfl) (by kernel_rfl) (by kernel_rfl) (fun _ _ _ h => by first | exact h | exact h.elim) (by decide) (fun _ _ => trivial) (fun _ _ => trivial) (Sx.behind (by kernel_rfl) hs1.out) (Or.inl ⟨by rfl, fun uu hu => by go_simp⟩) ?_
                    try go_simp
                    refine wpAnyX_both (T := (fun _ => True)) (i := 6) (v := Value.bool false) rfl (by kernel_rfl) (by kernel_rfl) (by kernel_rfl) (fun _ _ _ h => by first | exact h | exact h.elim) (by decide) (fun _ _ => trivial) (fun _ _ => trivial) (Sx.behind (by kernel_rfl) hs1.out) (Or.inl ⟨by rfl, fun uu hu => by go_simp⟩) ?_
                    try go_simp
                    refine wpAnyX_both (T := (fun _ => True)) (i := 7) (v := Value.bool false) rfl (by kernel_rfl) (by kernel_rfl) (by kernel_rfl) (fun _ _ _ h => by first | exact h | exact h.elim) (by decide) (fun _ _ => trivial) (fun _ _ => trivial) (Sx.behind (by kernel_rfl) hs1.out) (Or.inl ⟨by rfl, fun uu hu => by go_simp⟩) ?_
                    try go_simp
                    refine wpAnyX_both (T := (fun _ => True)) (i := 8) (v := undef) rfl (by kernel_rfl) (by kernel_rfl) (by kernel_rfl) (fun _ _ _ h => by first | exact h | exact h.elim) (by decide) (fun _ _ => trivial) (fun _ _ => trivial) (Sx.behind (by kernel_rfl) hs1.out) (Or.inr ⟨by rfl, rfl⟩) ?_
                    try go_simp
                    refine wpAnyX_both (T := (fun _ => True)) (i := 9) (v := undef) rfl (by kernel_rfl) (by kernel_rfl) (by kernel_rfl) (fun _ _ _ h => by first | exact h | exact h.elim) (by decide) (fun _ _ => trivial) (fun _ _ => trivial) (Sx.behind (by kernel_rfl) hs1.out) (Or.inr ⟨by rfl, rfl⟩) ?_
                    try go_simp
                    refine wpAnyX_both (T := (fun _ => True)) (i := 10) (v := Value.bool false) rfl (by kernel_rfl) (by kernel_rfl) (by kernel_rfl) (fun _ _ _ h => by first | exact h | exact h.elim) (by decide) (fun _ _ => trivial) (fun _ _ => trivial) (Sx.behind (by kernel_rfl) hs1.out) (Or.inl ⟨by rfl, fun uu hu => by go_simp⟩) ?_
                    try go_simp
                    refine wpAnyX_both (T := (fun _ => True)) (i := 11) (v := Value.bool false) rfl (by kernel_rfl) (by kernel_rfl) (by kernel_rfl) (fun _ _ _ h => by first | exact h | exact h.elim) (by decide) (fun _ _ => trivial) (fun _ _ => trivial) (Sx.behind (by kernel_rfl) hs1.out) (Or.inl ⟨by rfl, fun uu hu => by go_simp⟩) ?_
                    try go_simp
                    refine wpAnyX_both (T := (fun _ => True)) (i := 12) (v := undef) rfl (by kernel_rfl) (by kernel_rfl) (by kernel_rfl) (fun _ _ _ h => by first | exact h | exact h.elim) (by decide) (fun _ _ => trivial) (fun _ _ => trivial) (Sx.behind (by kernel_rfl) hs1.out) (Or.inr ⟨by rfl, rfl⟩) ?_
                    try go_simp
                    refine wpAnyX_both (T := (fun _ => True)) (i := 13) (v := undef) rfl (by kernel_rfl) (by kernel_rfl) (by kernel_rfl) (fun _ _ _ h => by first | exact h | exact h.elim) (by decide) (fun _ _ => trivial) (fun _ _ => trivial) (Sx.behind (by kernel_rfl) hs1.out) (Or.inr ⟨by rfl, rfl⟩) ?_
                    try go_simp
                    refine wpAnyX_both (T := (fun _ => True)) (i := 14) (v := undef) rfl (by kernel_rfl) (by kernel_rfl) (by kernel_rfl) (fun _ _ _ h => by first | exact h | exact h.elim) (by decide) (fun _ _ => trivial) (fun _ _ => trivial) (Sx.behind (by kernel_rfl) hs1.out) (Or.inr ⟨by rfl, rfl⟩) ?_
                    try go_simp
                    refine wpAnyX_both (T := (fun _ => True)) (i := 15) (v := undef) rfl (by kernel_rfl) (by kernel_rfl) (by kernel_rfl) (fun _ _ _ h => by first | exact h | exact h.elim) (by decide) (fun _ _ => trivial) (fun _ _ => trivial) (Sx.behind (by kernel_rfl) hs1.out) (Or.inr ⟨by rfl, rfl⟩) ?_
                    try go_simp
                    refine wpAnyX_both (T := (fun _ => True)) (i := 16) (v := undef) rfl (by kernel_rfl) (by kernel_rfl) (by kernel_rfl) (fun _ _ _ h => by first | exact h | exact h.elim) (by decide) (fun _ _ => trivial) (fun _ _ => trivial) (Sx.behind (by kernel_rfl) hs1.out) (Or.inr ⟨by rfl, rfl⟩) ?_
                    try go_simp
                    refine wpAnyX_both (T := (fun _ => True)) (i := 17) (v := undef) rfl (by kernel_rfl) (by kernel_rfl) (by kernel_rfl) (fun _ _ _ h => by first | exact h | exact h.elim) (by decide) (fun _ _ => trivial) (fun _ _ => trivial) (Sx.behind (by kernel_rfl) hs1.out) (Or.inr ⟨by rfl, rfl⟩) ?_
                    try go_simp
                    refine wpAnyX_both (T := (fun _ => True)) (i := 18) (v := undef) rfl (by kernel_rfl) (by kernel_rfl) (by kernel_rfl) (fun _ _ _ h => by first | exact h | exact h.elim) (by decide) (fun _ _ => trivial) (fun _ _ => trivial) (Sx.behind (by kernel_rfl) hs1.out) (Or.inr ⟨by rfl, rfl⟩) ?_
                    try go_simp
                    refine wpAnyX_both (T := (fun _ => True)) (i := 19) (v := undef) rfl (by kernel_rfl) (by kernel_rfl) (by kernel_rfl) (fun _ _ _ h => by first | exact h | exact h.elim) (by decide) (fun _ _ => trivial) (fun _ _ => trivial) (Sx.behind (by kernel_rfl) hs1.out) (Or.inr ⟨by rfl, rfl⟩) ?_
                    try go_simp
                    refine wpAnyX_both (T := (fun _ => True)) (i := 20) (v := undef) rfl (by kernel_rfl) (by kernel_rfl) (by kernel_rfl) (fun _ _ _ h => by first | exact h | exact h.elim) (by decide) (fun _ _ => trivial) (fun _ _ => trivial) (Sx.behind (by kernel_rfl) hs1.out) (Or.inr ⟨by rfl, rfl⟩) ?_
                    try go_simp
                    refine wpAnyX_both (T := (fun _ => True)) (i := 21) (v := Value.bool false) rfl (by kernel_rfl) (by kernel_rfl) (by kernel_rfl) (fun _ _ _ h => by first | exact h | exact h.elim) (by decide) (fun _ _ => trivial) (fun _ _ => trivial) (Sx.behind (by kernel_rfl) hs1.out) (Or.inl ⟨by rfl, fun uu hu => by go_simp⟩) ?_
                    try go_simp
                    refine wpAnyX_done (by kernel_rfl) ?_ _
                    have r0 := Gw.out.rb.cell 0
                    have r1 := Gw.out.rb.cell 1
                    have f0 := Gw.out.rb.froz 0
                    have f1 := Gw.out.rb.froz 1
                    have g0 := Gw.out.xb.cell 0
                    have g1' := Gw.out.xb.cell 1
                    simp at r0 r1 g0 g1'
                    have t9 := Gw.out.rb.set 0 (Value.slice (some ⟨g1, 0, none⟩) k cp1)
                    have t0 := (t9.set 1 (Value.slice a3 n3 c3)).cell 0
                    have t1 := (t9.set 1 (Value.slice a3 n3 c3)).cell 1
                    simp at t0 t1
                    have T0 := kide t0
                    have T1 := kide t1
                    have FIN := kide (Gw.out.fin HR.out (by have := HWL.out; have := HNN.out; omega) (by have := HWL.out; have := HNN.out; omega) (by have := HN3.out; omega))
                    clear t0 t1 t9
                    go_wp2_with fail
                    have t0 := T0.out
                    have t1 := T1.out
                    exact bodyPost_ret (v := .agg #[Value.slice (some ⟨g1, 0, none⟩) k cp1, Value.slice a3 n3 c3]) (by simp [results, Try.results46, go_sem, t0, t1]) rfl FIN.out
                  have hA2 : (n3 : Int) < 1000 + (x5 : Int) := by omega
                  clear hA
                  refine wpAnyX_both (T := (fun _ => True)) (i := 5) (v := Value.int .i64 (1000 + (x5 : Int))) rfl (by kernel_rfl) (by kernel_rfl) (by kernel_rfl) (fun _ _ _ h => by first | exact h | exact h.elim) (by decide) (fun _ _ => trivial) (fun _ _ => trivial) (Sx.behind (by kernel_rfl) hs1.out) (Or.inl ⟨by rfl, fun uu hu => by go_simp⟩) ?_
                  try go_simp
                  refine wpAnyX_both (T := (fun _ => True)) (i := 6) (v := Value.bool true) rfl (by kernel_rfl) (by kernel_rfl) (by kernel_rfl) (fun _ _ _ h => by first | exact h | exact h.elim) (by decide) (fun _ _ => trivial) (fun _ _ => trivial) (Sx.behind (by kernel_rfl) hs1.out) (Or.inl ⟨by rfl, fun uu hu => by go_simp⟩) ?_
                  try go_simp
                  refine wpAnyX_both (T := (fun _ => True)) (i := 7) (v := Value.bool true) rfl (by kernel_rfl) (by kernel_rfl) (by kernel_rfl) (fun _ _ _ h => by first | exact h | exact h.elim) (by decide) (fun _ _ => trivial) (fun _ _ => trivial) (Sx.behind (by kernel_rfl) hs1.out) (Or.inl ⟨by rfl, fun uu hu => by go_simp⟩) ?_
                  try go_simp
                  refine wpAnyX_both (T := (fun _ => True)) (i := 8) (v := Value.int .i64 (k : Int)) rfl (by kernel_rfl) (by kernel_rfl) (by kernel_rfl) (fun _ _ _ h => by first | exact h | exact h.elim) (by decide) (fun _ _ => trivial) (fun _ _ => trivial) (Sx.behind (by kernel_rfl) hs1.out) (Or.inl ⟨by rfl, fun uu hu => by go_simp⟩) ?_
                  try go_simp
                  refine wpAnyX_both (T := (fun _ => True)) (i := 9) (v := Value.bool true) rfl (by kernel_rfl) (by kernel_rfl) (by kernel_rfl) (fun _ _ _ h => by first | exact h | exact h.elim) (by decide) (fun _ _ => trivial) (fun _ _ => trivial) (Sx.behind (by kernel_rfl) hs1.out) (Or.inl ⟨by rfl, fun uu hu => by go_simp⟩) ?_
                  try go_simp
                  refine wpAnyX_both (T := (fun _ => True)) (i := 10) (v := Value.bool true) rfl (by kernel_rfl) (by kernel_rfl) (by kernel_rfl) (fun _ _ _ h => by first | exact h | exact h.elim) (by decide) (fun _ _ => trivial) (fun _ _ => trivial) (Sx.behind (by kernel_rfl) hs1.out) (Or.inl ⟨by rfl, fun uu hu => by go_simp⟩) ?_
                  try go_simp
                  refine wpAnyX_both (T := (fun _ => True)) (i := 11) (v := Value.bool true) rfl (by kernel_rfl) (by kernel_rfl) (by kernel_rfl) (fun _ _ _ h => by first | exact h | exact h.elim) (by decide) (fun _ _ => trivial) (fun _ _ => trivial) (Sx.behind (by kernel_rfl) hs1.out) (Or.inl ⟨by rfl, fun uu hu => by go_simp⟩) ?_
                  try go_simp
                  refine wpAnyX_both (T := (fun _ => True)) (i := 12) (v := Value.pointer (some ⟨w.heap.size + 1, 0, none⟩)) rfl (by kernel_rfl) (by kernel_rfl) (by kernel_rfl) (fun _ _ _ h => by first | exact h | exact h.elim) (by decide) (fun _ _ => trivial) (fun _ _ => trivial) (Sx.behind (by kernel_rfl) hs1.out) (Or.inl ⟨by rfl, fun uu hu => by go_simp⟩) ?_
                  try go_simp
                  refine wpAnyX_both (T := (fun uu => uu.cell? ⟨w.heap.size + 1, 1, none⟩ = some (Value.slice a3 n3 c3) ∧ uu.cell? ⟨w.heap.size + 1, 0, none⟩ = some (Value.slice (some ⟨g1, 0, none⟩) k cp1) ∧ uu.cell? ⟨g1, 0, none⟩ = some (Value.int .i64 u0) ∧ uu.cell? ⟨g1, 1, none⟩ = some (Value.int .i64 u0))) (i := 13) (v := Value.slice (some ⟨g1, 0, none⟩) k cp1) rfl (by kernel_rfl) (by kernel_rfl) (by kernel_rfl) (fun _ _ _ h => by first | exact h | exact h.elim) (by decide) (fun _ h => h.elim) (fun _ h => h) (Sx.behind (by kernel_rfl) hs1.out) (Or.inl ⟨by rfl, fun uu hu => by obtain ⟨e0, e1, e2, e3⟩ := hu; go_simp⟩) ?_
                  try go_simp
                  refine wpAnyX_both (T := (fun _ => True)) (i := 14) (v := Value.pointer (some ⟨g1, 0, none⟩)) rfl (by kernel_rfl) (by kernel_rfl) (by kernel_rfl) (fun _ _ _ h => by first | exact h | exact h.elim) (by decide) (fun _ _ => trivial) (fun _ _ => trivial) (Sx.behind (by kernel_rfl) hs1.out) (Or.inl ⟨by rfl, fun uu hu => by go_simp⟩) ?_
                  try go_simp
                  refine wpAnyX_both (T := (fun uu => uu.cell? ⟨w.heap.size + 1, 1, none⟩ = some (Value.slice a3 n3 c3) ∧ uu.cell? ⟨w.heap.size + 1, 0, none⟩ = some (Value.slice (some ⟨g1, 0, none⟩) k cp1) ∧ uu.cell? ⟨g1, 0, none⟩ = some (Value.int .i64 u0) ∧ uu.cell? ⟨g1, 1, none⟩ = some (Value.int .i64 u0))) (i := 15) (v := Value.int .i64 u0) rfl (by kernel_rfl) (by kernel_rfl) (by kernel_rfl) (fun _ _ _ h => by first | exact h | exact h.elim) (by decide) (fun _ h => h.elim) (fun _ h => h) (Sx.behind (by kernel_rfl) hs1.out) (Or.inl ⟨by rfl, fun uu hu => by obtain ⟨e0, e1, e2, e3⟩ := hu; go_simp⟩) ?_
                  try go_simp
                  refine wpAnyX_both (T := (fun _ => True)) (i := 16) (v := Value.pointer (some ⟨w.heap.size + 1, 0, none⟩)) rfl (by kernel_rfl) (by kernel_rfl) (by kernel_rfl) (fun _ _ _ h => by first | exact h | exact h.elim) (by decide) (fun _ _ => trivial) (fun _ _ => trivial) (Sx.behind (by kernel_rfl) hs1.out) (Or.inl ⟨by rfl, fun uu hu => by go_simp⟩) ?_
                  try go_simp
                  refine wpAnyX_both (T := (fun uu => uu.cell? ⟨w.heap.size + 1, 1, none⟩ = some (Value.slice a3 n3 c3) ∧ uu.cell? ⟨w.heap.size + 1, 0, none⟩ = some (Value.slice (some ⟨g1, 0, none⟩) k cp1) ∧ uu.cell? ⟨g1, 0, none⟩ = some (Value.int .i64 u0) ∧ uu.cell? ⟨g1, 1, none⟩ = some (Value.int .i64 u0))) (i := 17) (v := Value.slice (some ⟨g1, 0, none⟩) k cp1) rfl (by kernel_rfl) (by kernel_rfl) (by kernel_rfl) (fun _ _ _ h => by first | exact h | exact h.elim) (by decide) (fun _ h => h.elim) (fun _ h => h) (Sx.behind (by kernel_rfl) hs1.out) (Or.inl ⟨by rfl, fun uu hu => by obtain ⟨e0, e1, e2, e3⟩ := hu; go_simp⟩) ?_
                  try go_simp
                  refine wpAnyX_both (T := (fun _ => True)) (i := 18) (v := Value.pointer (some ⟨g1, 1, none⟩)) rfl (by kernel_rfl) (by kernel_rfl) (by kernel_rfl) (fun _ _ _ h => by first | exact h | exact h.elim) (by decide) (fun _ _ => trivial) (fun _ _ => trivial) (Sx.behind (by kernel_rfl) hs1.out) (Or.inl ⟨by rfl, fun uu hu => by go_simp⟩) ?_
                  try go_simp
                  refine wpAnyX_both (T := (fun uu => uu.cell? ⟨w.heap.size + 1, 1, none⟩ = some (Value.slice a3 n3 c3) ∧ uu.cell? ⟨w.heap.size + 1, 0, none⟩ = some (Value.slice (some ⟨g1, 0, none⟩) k cp1) ∧ uu.cell? ⟨g1, 0, none⟩ = some (Value.int .i64 u0) ∧ uu.cell? ⟨g1, 1, none⟩ = some (Value.int .i64 u0))) (i := 19) (v := Value.int .i64 u0) rfl (by kernel_rfl) (by kernel_rfl) (by kernel_rfl) (fun _ _ _ h => by first | exact h | exact h.elim) (by decide) (fun _ h => h.elim) (fun _ h => h) (Sx.behind (by kernel_rfl) hs1.out) (Or.inl ⟨by rfl, fun uu hu => by obtain ⟨e0, e1, e2, e3⟩ := hu; go_simp⟩) ?_
                  try go_simp
                  refine wpAnyX_both (T := (fun _ => True)) (i := 20) (v := Value.bool true) rfl (by kernel_rfl) (by kernel_rfl) (by kernel_rfl) (fun _ _ _ h => by first | exact h | exact h.elim) (by decide) (fun _ _ => trivial) (fun _ _ => trivial) (Sx.behind (by kernel_rfl) hs1.out) (Or.inl ⟨by rfl, fun uu hu => by go_simp⟩) ?_
                  try go_simp
                  refine wpAnyX_both (T := (fun _ => True)) (i := 21) (v := Value.bool true) rfl (by kernel_rfl) (by kernel_rfl) (by kernel_rfl) (fun _ _ _ h => by first | exact h | exact h.elim) (by decide) (fun _ _ => trivial) (fun _ _ => trivial) (Sx.behind (by kernel_rfl) hs1.out) (Or.inl ⟨by rfl, fun uu hu => by go_simp⟩) ?_
                  try go_simp
                  refine wpAnyX_done (by kernel_rfl) ?_ _
                  have c9 := Gw.out.xb.cell 1
                  simp at c9
                  have lx := Gw.out.xb.lt
                  have hsz : w.heap.size ≤ (m1.alloc (Obj.cells #[Value.int .i64 0, Value.int .i64 1, Value.int .i64 0, Value.slice none 0 0] 86)).heap.size := by simp; omega
                  have hul : ys3.length ≤ 1073741824 := by have := HN3.out; omega
                  clear hw5
                  go_wp2_with (at_builtin; refine wpList_appB4 rfl _ _ rfl w.heap.size (Value.slice a3 n3 c3) ys3 ⟨⟨0, 1, 0, []⟩, none, 0⟩ rfl (Gw.out.core.bar.later ((Below.refl _ _).alloc (Nat.le_refl _) _)) m1.heap.size rfl (by simp) (by simp) (by simp) (by simp) hul hsz ?_)
                  intro v9 w8 ho9 hg9
                  obtain ⟨a9, c9q, rfl⟩ := ho9.form
                  have hl9 : (ys3 ++ [(⟨⟨0, 1, 0, []⟩, none, 0⟩ : Yg)]).length = n3 + 1 := by rw [List.length_append, HN3.out.1]; rfl
                  rw [hl9] at ho9
                  rw [hl9]
                  have hba : Below m1.heap.size m1 (m1.alloc (Obj.cells #[Value.int .i64 0, Value.int .i64 1, Value.int .i64 0, Value.slice none 0 0] 86)) := (Below.refl _ _).alloc (Nat.le_refl _) _
                  obtain ⟨gs, x1, -⟩ := (Gw.out.later hba).addB HR.out ho9 hg9 ⟨⟨⟨by simp, by simp, .inl rfl⟩, fun ad e => by cases e⟩, by unfold in64; simp only []; omega, by unfold in64; simp only []; omega, by unfold in64; simp only []; omega, by simp⟩
                  have e0 := x1.cell 1
                  have f0 := x1.froz 1
                  simp at e0
                  have Gs := kide gs
                  have HL9 := kide hl9
                  clear gs x1 hba ho9 hg9 c9 lx hul hsz hl9
                  go_wp2_with fail
                  go_roundg (1001 - (n3 + 1))
                  case measure => have := HN3.out; omega
                  case rel => exact ⟨_, _, _, _, HL9.out, by have := HN3.out; omega, Nat.le_refl _, Gs.out⟩
                · have hub : (u0 == u1) = false := by simpa using hu
                  clear hu
                  go_wp2_with fail
                  refine wp_region_x (SA := fun _ => False) (SB := fun uu => uu.cell? ⟨w.heap.size + 1, 1, none⟩ = some (Value.slice a3 n3 c3) ∧ uu.cell? ⟨w.heap.size + 1, 0, none⟩ = some (Value.slice (some ⟨g1, 0, none⟩) k cp1) ∧ uu.cell? ⟨g1, 0, none⟩ = some (Value.int .i64 u0) ∧ uu.cell? ⟨g1, 1, none⟩ = some (Value.int .i64 u1)) (k := 999) (by kernel_rfl) ?_
                  have hbd : Below wr.heap.size wr wr.drew := (Below.refl _ _).drew
                  have Gd := kide (GQ.out.later hbd)
                  clear hbd
                  generalize wr.drew = m0 at *
                  have c0_0 : m0.cell? ⟨w.heap.size + 1, 1, none⟩ = some (Value.slice a3 n3 c3) := Gd.out.xb.cell 1
                  have c1_0 : m0.cell? ⟨w.heap.size + 1, 0, none⟩ = some (Value.slice (some ⟨g1, 0, none⟩) k cp1) := Gd.out.xb.cell 0
                  have c2_0 : m0.cell? ⟨g1, 0, none⟩ = some (Value.int .i64 u0) := by rw [← HU0.out]; exact Gd.out.core.wid.cellO HL0.out
                  have c3_0 : m0.cell? ⟨g1, 1, none⟩ = some (Value.int .i64 u1) := by rw [← HU1.out]; exact Gd.out.core.wid.cellO HL1.out
                  have hs0 : Hid ((fun uu => uu.cell? ⟨w.heap.size + 1, 1, none⟩ = some (Value.slice a3 n3 c3) ∧ uu.cell? ⟨w.heap.size + 1, 0, none⟩ = some (Value.slice (some ⟨g1, 0, none⟩) k cp1) ∧ uu.cell? ⟨g1, 0, none⟩ = some (Value.int .i64 u0) ∧ uu.cell? ⟨g1, 1, none⟩ = some (Value.int .i64 u1)) m0) := ⟨c0_0, c1_0, c2_0, c3_0⟩
                  try go_simp
                  refine wpAnyX_both (T := (fun _ => True)) (i := 0) (v := Value.pointer (some ⟨w.heap.size + 1, 1, none⟩)) rfl (by kernel_rfl) (by kernel_rfl) (by kernel_rfl) (fun _ _ _ h => by first | exact h | exact h.elim) (by decide) (fun _ _ => trivial) (fun _ _ => trivial) (Sx.behind (by kernel_rfl) hs0.out) (Or.inl ⟨by rfl, fun uu hu => by go_simp⟩) ?_
                  try go_simp
                  refine wpAnyX_both (T := (fun uu => uu.cell? ⟨w.heap.size + 1, 1, none⟩ = some (Value.slice a3 n3 c3) ∧ uu.cell? ⟨w.heap.size + 1, 0, none⟩ = some (Value.slice (some ⟨g1, 0, none⟩) k cp1) ∧ uu.cell? ⟨g1, 0, none⟩ = some (Value.int .i64 u0) ∧ uu.cell? ⟨g1, 1, none⟩ = some (Value.int .i64 u1))) (i := 1) (v := Value.slice a3 n3 c3) rfl (by kernel_rfl) (by kernel_rfl) (by kernel_rfl) (fun _ _ _ h => by first | exact h | exact h.elim) (by decide) (fun _ h => h.elim) (fun _ h => h) (Sx.behind (by kernel_rfl) hs0.out) (Or.inl ⟨by rfl, fun uu hu => by obtain ⟨e0, e1, e2, e3⟩ := hu; go_simp⟩) ?_
                  try go_simp
                  refine wpAnyX_both (T := (fun _ => True)) (i := 2) (v := Value.int .i64 (n3 : Int)) rfl (by kernel_rfl) (by kernel_rfl) (by kernel_rfl) (fun _ _ _ h => by first | exact h | exact h.elim) (by decide) (fun _ _ => trivial) (fun _ _ => trivial) (Sx.behind (by kernel_rfl) hs0.out) (Or.inl ⟨by rfl, fun uu hu => by go_simp⟩) ?_
                  try go_simp
                  refine wpAnyX_both (T := (fun _ => True)) (i := 3) (v := Value.pointer (some ⟨β, 0, none⟩)) rfl (by kernel_rfl) (by kernel_rfl) (by kernel_rfl) (fun _ _ _ h => by first | exact h | exact h.elim) (by decide) (fun _ _ => trivial) (fun _ _ => trivial) (Sx.behind (by kernel_rfl) hs0.out) (Or.inl ⟨by rfl, fun uu hu => by go_simp⟩) ?_
                  try go_simp
                  refine wpAnyX_ready (rs := [4]) (by kernel_rfl) (by simp) (AllX.cons rfl (fun K hK => ?_) AllX.nil)
                  go_simp
                  refine Calls.mono (belowJ 2 (by omega) (by omega) Gd.out.core.rr) ?_
                  rintro e m1 ⟨x5, rfl, hx5, hr5, hd5⟩
                  have Gw := kide (Gd.out.far HB.out hd5 hr5)
                  have hx51 : (x5 : Int) ≤ 1 := by omega
                  have hw5 : IntKind.i64.wrap (1000 + (x5 : Int)) = 1000 + (x5 : Int) := by rw [IntKind.wrap_i64] <;> omega
                  clear hr5 hd5 Gd hx5
                  have c0_1 : m1.cell? ⟨w.heap.size + 1, 1, none⟩ = some (Value.slice a3 n3 c3) := Gw.out.xb.cell 1
                  have c1_1 : m1.cell? ⟨w.heap.size + 1, 0, none⟩ = some (Value.slice (some ⟨g1, 0, none⟩) k cp1) := Gw.out.xb.cell 0
                  have c2_1 : m1.cell? ⟨g1, 0, none⟩ = some (Value.int .i64 u0) := by rw [← HU0.out]; exact Gw.out.core.wid.cellO HL0.out
                  have c3_1 : m1.cell? ⟨g1, 1, none⟩ = some (Value.int .i64 u1) := by rw [← HU1.out]; exact Gw.out.core.wid.cellO HL1.out
                  have hs1 : Hid ((fun uu => uu.cell? ⟨w.heap.size + 1, 1, none⟩ = some (Value.slice a3 n3 c3) ∧ uu.cell? ⟨w.heap.size + 1, 0, none⟩ = some (Value.slice (some ⟨g1, 0, none⟩) k cp1) ∧ uu.cell? ⟨g1, 0, none⟩ = some (Value.int .i64 u0) ∧ uu.cell? ⟨g1, 1, none⟩ = some (Value.int .i64 u1)) m1) := ⟨c0_1, c1_1, c2_1, c3_1⟩
                  refine hK _ _ (Sx.behind (by kernel_rfl) hs1.out) ?_
                  clear hK K
                  try go_simp
                  by_cases hA : ¬ (n3 : Int) < 1000 + (x5 : Int)
                  · refine wpAnyX_both (T := (fun _ => True)) (i := 5) (v := Value.int .i64 (1000 + (x5 : Int))) rfl (by kernel_rfl) (by kernel_rfl) (by kernel_rfl) (fun _ _ _ h => by first | exact h | exact h.elim) (by decide) (fun _ _ => trivial) (fun _ _ => trivial) (Sx.behind (by kernel_rfl) hs1.out) (Or.inl ⟨by rfl, fun uu hu => by go_simp⟩) ?_
                    try go_simp
                    refine wpAnyX_both (T := (fun _ => True)) (i := 6) (v := Value.bool false) rfl (by kernel_rfl) (by kernel_rfl) (by kernel_rfl) (fun _ _ _ h => by first | exact h | exact h.elim) (by decide) (fun _ _ => trivial) (fun _ _ => trivial) (Sx.behind (by kernel_rfl) hs1.out) (Or.inl ⟨by rfl, fun uu hu => by go_simp⟩) ?_
                    try go_simp
                    refine wpAnyX_both (T := (fun _ => True)) (i := 7) (v := Value.bool false) rfl (by kernel_rfl) (by kernel_rfl) (by kernel_rfl) (fun _ _ _ h => by first | exact h | exact h.elim) (by decide) (fun _ _ => trivial) (fun _ _ => trivial) (Sx.behind (by kernel_rfl) hs1.out) (Or.inl ⟨by rfl, fun uu hu => by go_simp⟩) ?_
                    try go_simp
                    refine wpAnyX_both (T := (fun _ => True)) (i := 8) (v := undef) rfl (by kernel_rfl) (by kernel_rfl) (by kernel_rfl) (fun _ _ _ h => by first | exact h | exact h.elim) (by decide) (fun _ _ => trivial) (fun _ _ => trivial) (Sx.behind (by kernel_rfl) hs1.out) (Or.inr ⟨by rfl, rfl⟩) ?_
                    try go_simp
                    refine wpAnyX_both (T := (fun _ => True)) (i := 9) (v := undef) rfl (by kernel_rfl) (by kernel_rfl) (by kernel_rfl) (fun _ _ _ h => by first | exact h | exact h.elim) (by decide) (fun _ _ => trivial) (fun _ _ => trivial) (Sx.behind (by kernel_rfl) hs1.out) (Or.inr ⟨by rfl, rfl⟩) ?_
                    try go_simp
                    refine wpAnyX_both (T := (fun _ => True)) (i := 10) (v := Value.bool false) rfl (by kernel_rfl) (by kernel_rfl) (by kernel_rfl) (fun _ _ _ h => by first | exact h | exact h.elim) (by decide) (fun _ _ => trivial) (fun _ _ => trivial) (Sx.behind (by kernel_rfl) hs1.out) (Or.inl ⟨by rfl, fun uu hu => by go_simp⟩) ?_
                    try go_simp
                    refine wpAnyX_both (T := (fun _ => True)) (i := 11) (v := Value.bool false) rfl (by kernel_rfl) (by kernel_rfl) (by kernel_rfl) (fun _ _ _ h => by first | exact h | exact h.elim) (by decide) (fun _ _ => trivial) (fun _ _ => trivial) (Sx.behind (by kernel_rfl) hs1.out) (Or.inl ⟨by rfl, fun uu hu => by go_simp⟩) ?_
                    try go_simp
                    refine wpAnyX_both (T := (fun _ => True)) (i := 12) (v := undef) rfl (by kernel_rfl) (by kernel_rfl) (by kernel_rfl) (fun _ _ _ h => by first | exact h | exact h.elim) (by decide) (fun _ _ => trivial) (fun _ _ => trivial) (Sx.behind (by kernel_rfl) hs1.out) (Or.inr ⟨by rfl, rfl⟩) ?_
                    try go_simp
                    refine wpAnyX_both (T := (fun _ => True)) (i := 13) (v := undef) rfl (by kernel_rfl) (by kernel_rfl) (by kernel_rfl) (fun _ _ _ h => by first | exact h | exact h.elim) (by decide) (fun _ _ => trivial) (fun _ _ => trivial) (Sx.behind (by kernel_rfl) hs1.out) (Or.inr ⟨by rfl, rfl⟩) ?_
                    try go_simp
                    refine wpAnyX_both (T := (fun _ => True)) (i := 14) (v := undef) rfl (by kernel_rfl) (by kernel_rfl) (by kernel_rfl) (fun _ _ _ h => by first | exact h | exact h.elim) (by decide) (fun _ _ => trivial) (fun _ _ => trivial) (Sx.behind (by kernel_rfl) hs1.out) (Or.inr ⟨by rfl, rfl⟩) ?_
                    try go_simp
                    refine wpAnyX_both (T := (fun _ => True)) (i := 15) (v := undef) rfl (by kernel_rfl) (by kernel_rfl) (by kernel_rfl) (fun _ _ _ h => by first | exact h | exact h.elim) (by decide) (fun _ _ => trivial) (fun _ _ => trivial) (Sx.behind (by kernel_rfl) hs1.out) (Or.inr ⟨by rfl, rfl⟩) ?_
                    try go_simp
                    refine wpAnyX_both (T := (fun _ => True)) (i := 16) (v := undef) rfl (by kernel_rfl) (by kernel_rfl) (by kernel_rfl) (fun _ _ _ h => by first | exact h | exact h.elim) (by decide) (fun _ _ => trivial) (fun _ _ => trivial) (Sx.behind (by kernel_rfl) hs1.out) (Or.inr ⟨by rfl, rfl⟩) ?_
                    try go_simp
                    refine wpAnyX_both (T := (fun _ => True)) (i := 17) (v := undef) rfl (by kernel_rfl) (by kernel_rfl) (by kernel_rfl) (fun _ _ _ h => by first | exact h | exact h.elim) (by decide) (fun _ _ => trivial) (fun _ _ => trivial) (Sx.behind (by kernel_rfl) hs1.out) (Or.inr ⟨by rfl, rfl⟩) ?_
                    try go_simp
                    refine wpAnyX_both (T := (fun _ => True)) (i := 18) (v := undef) rfl (by kernel_rfl) (by kernel_rfl) (by kernel_rfl) (fun _ _ _ h => by first | exact h | exact h.elim) (by decide) (fun _ _ => trivial) (fun _ _ => trivial) (Sx.behind (by kernel_rfl) hs1.out) (Or.inr ⟨by rfl, rfl⟩) ?_
                    try go_simp
                    refine wpAnyX_both (T := (fun _ => True)) (i := 19) (v := undef) rfl (by kernel_rfl) (by kernel_rfl) (by kernel_rfl) (fun _ _ _ h => by first | exact h | exact h.elim) (by decide) (fun _ _ => trivial) (fun _ _ => trivial) (Sx.behind (by kernel_rfl) hs1.out) (Or.inr ⟨by rfl, rfl⟩) ?_
                    try go_simp
                    refine wpAnyX_both (T := (fun _ => True)) (i := 20) (v := undef) rfl (by kernel_rfl) (by kernel_rfl) (by kernel_rfl) (fun _ _ _ h => by first | exact h | exact h.elim) (by decide) (fun _ _ => trivial) (fun _ _ => trivial) (Sx.behind (by kernel_rfl) hs1.out) (Or.inr ⟨by rfl, rfl⟩) ?_
                    try go_simp
                    refine wpAnyX_both (T := (fun _ => True)) (i := 21) (v := Value.bool false) rfl (by kernel_rfl) (by kernel_rfl) (by kernel_rfl) (fun _ _ _ h => by first | exact h | exact h.elim) (by decide) (fun _ _ => trivial) (fun _ _ => trivial) (Sx.behind (by kernel_rfl) hs1.out) (Or.inl ⟨by rfl, fun uu hu => by go_simp⟩) ?_
                    try go_simp
                    refine wpAnyX_done (by kernel_rfl) ?_ _
                    have r0 := Gw.out.rb.cell 0
                    have r1 := Gw.out.rb.cell 1
                    have f0 := Gw.out.rb.froz 0
                    have f1 := Gw.out.rb.froz 1
                    have g0 := Gw.out.xb.cell 0
                    have g1' := Gw.out.xb.cell 1
                    simp at r0 r1 g0 g1'
                    have t9 := Gw.out.rb.set 0 (Value.slice (some ⟨g1, 0, none⟩) k cp1)
                    have t0 := (t9.set 1 (Value.slice a3 n3 c3)).cell 0
                    have t1 := (t9.set 1 (Value.slice a3 n3 c3)).cell 1
                    simp at t0 t1
                    have T0 := kide t0
                    have T1 := kide t1
                    have FIN := kide (Gw.out.fin HR.out (by have := HWL.out; have := HNN.out; omega) (by have := HWL.out; have := HNN.out; omega) (by have := HN3.out; omega))
                    clear t0 t1 t9
                    go_wp2_with fail
                    have t0 := T0.out
                    have t1 := T1.out
                    exact bodyPost_ret (v := .agg #[Value.slice (some ⟨g1, 0, none⟩) k cp1, Value.slice a3 n3 c3]) (by simp [results, Try.results46, go_sem, t0, t1]) rfl FIN.out
                  have hA2 : (n3 : Int) < 1000 + (x5 : Int) := by omega
                  clear hA
                  refine wpAnyX_both (T := (fun _ => True)) (i := 5) (v := Value.int .i64 (1000 + (x5 : Int))) rfl (by kernel_rfl) (by kernel_rfl) (by kernel_rfl) (fun _ _ _ h => by first | exact h | exact h.elim) (by decide) (fun _ _ => trivial) (fun _ _ => trivial) (Sx.behind (by kernel_rfl) hs1.out) (Or.inl ⟨by rfl, fun uu hu => by go_simp⟩) ?_
                  try go_simp
                  refine wpAnyX_both (T := (fun _ => True)) (i := 6) (v := Value.bool true) rfl (by kernel_rfl) (by kernel_rfl) (by kernel_rfl) (fun _ _ _ h => by first | exact h | exact h.elim) (by decide) (fun _ _ => trivial) (fun _ _ => trivial) (Sx.behind (by kernel_rfl) hs1.out) (Or.inl ⟨by rfl, fun uu hu => by go_simp⟩) ?_
                  try go_simp
                  refine wpAnyX_both (T := (fun _ => True)) (i := 7) (v := Value.bool true) rfl (by kernel_rfl) (by kernel_rfl) (by kernel_rfl) (fun _ _ _ h => by first | exact h | exact h.elim) (by decide) (fun _ _ => trivial) (fun _ _ => trivial) (Sx.behind (by kernel_rfl) hs1.out) (Or.inl ⟨by rfl, fun uu hu => by go_simp⟩) ?_
                  try go_simp
                  refine wpAnyX_both (T := (fun _ => True)) (i := 8) (v := Value.int .i64 (k : Int)) rfl (by kernel_rfl) (by kernel_rfl) (by kernel_rfl) (fun _ _ _ h => by first | exact h | exact h.elim) (by decide) (fun _ _ => trivial) (fun _ _ => trivial) (Sx.behind (by kernel_rfl) hs1.out) (Or.inl ⟨by rfl, fun uu hu => by go_simp⟩) ?_
                  try go_simp
                  refine wpAnyX_both (T := (fun _ => True)) (i := 9) (v := Value.bool true) rfl (by kernel_rfl) (by kernel_rfl) (by kernel_rfl) (fun _ _ _ h => by first | exact h | exact h.elim) (by decide) (fun _ _ => trivial) (fun _ _ => trivial) (Sx.behind (by kernel_rfl) hs1.out) (Or.inl ⟨by rfl, fun uu hu => by go_simp⟩) ?_
                  try go_simp
                  refine wpAnyX_both (T := (fun _ => True)) (i := 10) (v := Value.bool true) rfl (by kernel_rfl) (by kernel_rfl) (by kernel_rfl) (fun _ _ _ h => by first | exact h | exact h.elim) (by decide) (fun _ _ => trivial) (fun _ _ => trivial) (Sx.behind (by kernel_rfl) hs1.out) (Or.inl ⟨by rfl, fun uu hu => by go_simp⟩) ?_
                  try go_simp
                  refine wpAnyX_both (T := (fun _ => True)) (i := 11) (v := Value.bool true) rfl (by kernel_rfl) (by kernel_rfl) (by kernel_rfl) (fun _ _ _ h => by first | exact h | exact h.elim) (by decide) (fun _ _ => trivial) (fun _ _ => trivial) (Sx.behind (by kernel_rfl) hs1.out) (Or.inl ⟨by rfl, fun uu hu => by go_simp⟩) ?_
                  try go_simp
                  refine wpAnyX_both (T := (fun _ => True)) (i := 12) (v := Value.pointer (some ⟨w.heap.size + 1, 0, none⟩)) rfl (by kernel_rfl) (by kernel_rfl) (by kernel_rfl) (fun _ _ _ h => by first | exact h | exact h.elim) (by decide) (fun _ _ => trivial) (fun _ _ => trivial) (Sx.behind (by kernel_rfl) hs1.out) (Or.inl ⟨by rfl, fun uu hu => by go_simp⟩) ?_
                  try go_simp
                  refine wpAnyX_both (T := (fun uu => uu.cell? ⟨w.heap.size + 1, 1, none⟩ = some (Value.slice a3 n3 c3) ∧ uu.cell? ⟨w.heap.size + 1, 0, none⟩ = some (Value.slice (some ⟨g1, 0, none⟩) k cp1) ∧ uu.cell? ⟨g1, 0, none⟩ = some (Value.int .i64 u0) ∧ uu.cell? ⟨g1, 1, none⟩ = some (Value.int .i64 u1))) (i := 13) (v := Value.slice (some ⟨g1, 0, none⟩) k cp1) rfl (by kernel_rfl) (by kernel_rfl) (by kernel_rfl) (fun _ _ _ h => by first | exact h | exact h.elim) (by decide) (fun _ h => h.elim) (fun _ h => h) (Sx.behind (by kernel_rfl) hs1.out) (Or.inl ⟨by rfl, fun uu hu => by obtain ⟨e0, e1, e2, e3⟩ := hu; go_simp⟩) ?_
                  try go_simp
                  refine wpAnyX_both (T := (fun _ => True)) (i := 14) (v := Value.pointer (some ⟨g1, 0, none⟩)) rfl (by kernel_rfl) (by kernel_rfl) (by kernel_rfl) (fun _ _ _ h => by first | exact h | exact h.elim) (by decide) (fun _ _ => trivial) (fun _ _ => trivial) (Sx.behind (by kernel_rfl) hs1.out) (Or.inl ⟨by rfl, fun uu hu => by go_simp⟩) ?_
                  try go_simp
                  refine wpAnyX_both (T := (fun uu => uu.cell? ⟨w.heap.size + 1, 1, none⟩ = some (Value.slice a3 n3 c3) ∧ uu.cell? ⟨w.heap.size + 1, 0, none⟩ = some (Value.slice (some ⟨g1, 0, none⟩) k cp1) ∧ uu.cell? ⟨g1, 0, none⟩ = some (Value.int .i64 u0) ∧ uu.cell? ⟨g1, 1, none⟩ = some (Value.int .i64 u1))) (i := 15) (v := Value.int .i64 u0) rfl (by kernel_rfl) (by kernel_rfl) (by kernel_rfl) (fun _ _ _ h => by first | exact h | exact h.elim) (by decide) (fun _ h => h.elim) (fun _ h => h) (Sx.behind (by kernel_rfl) hs1.out) (Or.inl ⟨by rfl, fun uu hu => by obtain ⟨e0, e1, e2, e3⟩ := hu; go_simp⟩) ?_
                  try go_simp
                  refine wpAnyX_both (T := (fun _ => True)) (i := 16) (v := Value.pointer (some ⟨w.heap.size + 1, 0, none⟩)) rfl (by kernel_rfl) (by kernel_rfl) (by kernel_rfl) (fun _ _ _ h => by first | exact h | exact h.elim) (by decide) (fun _ _ => trivial) (fun _ _ => trivial) (Sx.behind (by kernel_rfl) hs1.out) (Or.inl ⟨by rfl, fun uu hu => by go_simp⟩) ?_
                  try go_simp
                  refine wpAnyX_both (T := (fun uu => uu.cell? ⟨w.heap.size + 1, 1, none⟩ = some (Value.slice a3 n3 c3) ∧ uu.cell? ⟨w.heap.size + 1, 0, none⟩ = some (Value.slice (some ⟨g1, 0, none⟩) k cp1) ∧ uu.cell? ⟨g1, 0, none⟩ = some (Value.int .i64 u0) ∧ uu.cell? ⟨g1, 1, none⟩ = some (Value.int .i64 u1))) (i := 17) (v := Value.slice (some ⟨g1, 0, none⟩) k cp1) rfl (by kernel_rfl) (by kernel_rfl) (by kernel_rfl) (fun _ _ _ h => by first | exact h | exact h.elim) (by decide) (fun _ h => h.elim) (fun _ h => h) (Sx.behind (by kernel_rfl) hs1.out) (Or.inl ⟨by rfl, fun uu hu => by obtain ⟨e0, e1, e2, e3⟩ := hu; go_simp⟩) ?_
                  try go_simp
                  refine wpAnyX_both (T := (fun _ => True)) (i := 18) (v := Value.pointer (some ⟨g1, 1, none⟩)) rfl (by kernel_rfl) (by kernel_rfl) (by kernel_rfl) (fun _ _ _ h => by first | exact h | exact h.elim) (by decide) (fun _ _ => trivial) (fun _ _ => trivial) (Sx.behind (by kernel_rfl) hs1.out) (Or.inl ⟨by rfl, fun uu hu => by go_simp⟩) ?_
                  try go_simp
                  refine wpAnyX_both (T := (fun uu => uu.cell? ⟨w.heap.size + 1, 1, none⟩ = some (Value.slice a3 n3 c3) ∧ uu.cell? ⟨w.heap.size + 1, 0, none⟩ = some (Value.slice (some ⟨g1, 0, none⟩) k cp1) ∧ uu.cell? ⟨g1, 0, none⟩ = some (Value.int .i64 u0) ∧ uu.cell? ⟨g1, 1, none⟩ = some (Value.int .i64 u1))) (i := 19) (v := Value.int .i64 u1) rfl (by kernel_rfl) (by kernel_rfl) (by kernel_rfl) (fun _ _ _ h => by first | exact h | exact h.elim) (by decide) (fun _ h => h.elim) (fun _ h => h) (Sx.behind (by kernel_rfl) hs1.out) (Or.inl ⟨by rfl, fun uu hu => by obtain ⟨e0, e1, e2, e3⟩ := hu; go_simp⟩) ?_
                  try go_simp
                  refine wpAnyX_both (T := (fun _ => True)) (i := 20) (v := Value.bool false) rfl (by kernel_rfl) (by kernel_rfl) (by kernel_rfl) (fun _ _ _ h => by first | exact h | exact h.elim) (by decide) (fun _ _ => trivial) (fun _ _ => trivial) (Sx.behind (by kernel_rfl) hs1.out) (Or.inl ⟨by rfl, fun uu hu => by go_simp⟩) ?_
                  try go_simp
                  refine wpAnyX_both (T := (fun _ => True)) (i := 21) (v := Value.bool false) rfl (by kernel_rfl) (by kernel_rfl) (by kernel_rfl) (fun _ _ _ h => by first | exact h | exact h.elim) (by decide) (fun _ _ => trivial) (fun _ _ => trivial) (Sx.behind (by kernel_rfl) hs1.out) (Or.inl ⟨by rfl, fun uu hu => by go_simp⟩) ?_
                  try go_simp
                  refine wpAnyX_done (by kernel_rfl) ?_ _
                  have r0 := Gw.out.rb.cell 0
                  have r1 := Gw.out.rb.cell 1
                  have f0 := Gw.out.rb.froz 0
                  have f1 := Gw.out.rb.froz 1
                  have g0 := Gw.out.xb.cell 0
                  have g1' := Gw.out.xb.cell 1
                  simp at r0 r1 g0 g1'
                  have t9 := Gw.out.rb.set 0 (Value.slice (some ⟨g1, 0, none⟩) k cp1)
                  have t0 := (t9.set 1 (Value.slice a3 n3 c3)).cell 0
                  have t1 := (t9.set 1 (Value.slice a3 n3 c3)).cell 1
                  simp at t0 t1
                  have T0 := kide t0
                  have T1 := kide t1
                  have FIN := kide (Gw.out.fin HR.out (by have := HWL.out; have := HNN.out; omega) (by have := HWL.out; have := HNN.out; omega) (by have := HN3.out; omega))
                  clear t0 t1 t9
                  go_wp2_with fail
                  have t0 := T0.out
                  have t1 := T1.out
                  exact bodyPost_ret (v := .agg #[Value.slice (some ⟨g1, 0, none⟩) k cp1, Value.slice a3 n3 c3]) (by simp [results, Try.results46, go_sem, t0, t1]) rfl FIN.out
          have b0 : ((x4 : Int) == 0) = false := beq_eq_false_iff_ne.2 (by omega)
          have b1 : ((x4 : Int) == 1) = false := beq_eq_false_iff_ne.2 (by omega)
          have b2 : ((x4 : Int) == 2) = false := beq_eq_false_iff_ne.2 (by omega)
          have b3 : ((x4 : Int) == 3) = false := beq_eq_false_iff_ne.2 (by omega)
          clear h0 h1 h2 h3
          have r0 := G4.out.rb.cell 0
          have r1 := G4.out.rb.cell 1
          have f0 := G4.out.rb.froz 0
          have f1 := G4.out.rb.froz 1
          have g0 := G4.out.xb.cell 0
          have g1' := G4.out.xb.cell 1
          simp at r0 r1 g0 g1'
          have t9 := G4.out.rb.set 0 (Value.slice (some ⟨g1, 0, none⟩) k cp1)
          have t0 := (t9.set 1 (Value.slice a2 n2 c2)).cell 0
          have t1 := (t9.set 1 (Value.slice a2 n2 c2)).cell 1
          simp at t0 t1
          have T0 := kide t0
          have T1 := kide t1
          have FIN := kide (G4.out.fin HR.out (by have := HWL.out; have := HNN.out; omega) (by have := HWL.out; have := HNN.out; omega) (by have := HN2.out; omega))
          clear t0 t1 t9
          go_wp2_with fail
          have t0 := T0.out
          have t1 := T1.out
          exact bodyPost_ret (v := .agg #[Value.slice (some ⟨g1, 0, none⟩) k cp1, Value.slice a2 n2 c2]) (by simp [results, Try.results46, go_sem, t0, t1]) rfl FIN.out

end Cp
end Go.Proofs.Ythoiajpbpoglfaa
