/- The law FnBitsTurns returns true, whatever it is handed. -/
import Derived.Test.YtobkemdffhhlfaaF8
import Derived.Test.YtobkemdffhhlfaaF6
import Derived.Test.YtobkemdffhhlfaaT3
import Derived.Test.YtobkemdffhhlfaaXFnBitsParts
namespace Go.Proofs.Ytobkemdffhhlfaa
set_option linter.unusedVariables false
set_option linter.unusedSimpArgs false
open Go.RowKit

theorem RetB.none {w w' : World} {e : Ending} (h : RetB w noR e w') : ∃ a c, e = .returned (.tuple #[.agg #[.int .i64 0, .slice a 0 c], .bool false]) ∧ Below w.heap.size w w' := by
  obtain ⟨a, c, he, hf, hb⟩ := h
  exact ⟨a, c, he, hb⟩

set_option maxHeartbeats 2000000 in
set_option maxRecDepth 100000 in
theorem law_turns (a : Option Addr) (c : Nat) (bs : List Nat) (w : World) (hr : RdB w a bs) (hl : bs.length ≤ 1048576) :
    Calls Try.prog 5 #[.slice a bs.length c] w fun e w' => e = .returned (.bool true) ∧ Below w.heap.size w w' := by
  go_enter Try.func5, Try.ntmps5
  go_wp2_with fail
  refine (big_any a bs.length c w (by omega)).mono ?_
  rw [show decide (1048576 < bs.length) = false by simp; omega]
  rintro e w ⟨rfl, rfl⟩
  go_wp2_with fail
  refine (drawTurn_any a c bs _ hr).mono ?_
  rintro e w1 ⟨a1, c1, W, xs, n, rfl, hW1, hW2, hn1, hn2, hg, B⟩
  have hx := hg.1.2.1
  have hl1 := hg.1.1
  go_wp2_with fail
  have b_b := Blk.new w1 (Value.int IntKind.i64 W) (Value.slice a1 xs.length c1) 26
  have r_b : Rd (w1.alloc (Obj.cells #[Value.int IntKind.i64 W, Value.slice a1 xs.length c1] 26)) a1 xs := hg.1.later (Ba (Below.refl _ _) _)
  replace B := Ba B (Obj.cells #[Value.int IntKind.i64 W, Value.slice a1 xs.length c1] 26)
  generalize w1.alloc (Obj.cells #[Value.int IntKind.i64 W, Value.slice a1 xs.length c1] 26) = w1' at *
  generalize w1.heap.size = β_b at *
  clear hg
  by_cases hc : rightB W xs = true ∧ 0 ≤ n ∧ n ≤ 4096
  · obtain ⟨hok, h0, h4⟩ := hc
    obtain ⟨hV1, hV2, hVl⟩ := right_W hok
    obtain ⟨V, rfl⟩ := Int.eq_ofNat_of_zero_le (show 0 ≤ W by omega)
    obtain ⟨n, rfl⟩ := Int.eq_ofNat_of_zero_le h0
    obtain ⟨cs, k, cs1, cs2, E1, E2, E3, E4, hk⟩ := turn_facts hok hx n (by omega)
    have hT := specTurn_any V a1 c1 xs n w1' r_b
    rw [E1] at hT
    refine hT.mono ?_
    intro e w2 h2
    obtain ⟨a2, c2, rfl, -, hb2⟩ := h2.yes (by omega) cs2
    clear hT h2
    replace b_b := b_b.next hb2
    replace r_b := r_b.later hb2
    replace B := chain B hb2
    obtain ⟨x_b, y_b⟩ := b_b.cells
    have l_b := b_b.lt
    go_wp2_with fail
    clear x_b y_b l_b
    replace b_b := b_b.alloc (Obj.cells #[Value.int IntKind.i64 V, Value.slice a2 cs.length c2] 26)
    replace r_b := r_b.later (Ba (Below.refl _ _) (Obj.cells #[Value.int IntKind.i64 V, Value.slice a2 cs.length c2] 26))
    replace B := Ba B (Obj.cells #[Value.int IntKind.i64 V, Value.slice a2 cs.length c2] 26)
    generalize w2.alloc (Obj.cells #[Value.int IntKind.i64 V, Value.slice a2 cs.length c2] 26) = w2' at *
    generalize w2.heap.size = β_w2 at *
    have hT := implTurn_any V a1 c1 xs n w2' r_b
    rw [E1] at hT
    refine hT.mono ?_
    intro e w3 h3
    obtain ⟨a3, c3, rfl, g3, hb3⟩ := h3.yes (by omega) cs2
    clear hT h3
    replace b_b := b_b.next hb3
    replace r_b := r_b.later hb3
    replace B := chain B hb3
    go_wp2_with fail
    have b_c := Blk.new w3 (Value.int IntKind.i64 V) (Value.slice a3 cs.length c3) 26
    have r_c : Rd (w3.alloc (Obj.cells #[Value.int IntKind.i64 V, Value.slice a3 cs.length c3] 26)) a3 cs := g3.1.later (Ba (Below.refl _ _) _)
    replace b_b := b_b.alloc (Obj.cells #[Value.int IntKind.i64 V, Value.slice a3 cs.length c3] 26)
    replace r_b := r_b.later (Ba (Below.refl _ _) (Obj.cells #[Value.int IntKind.i64 V, Value.slice a3 cs.length c3] 26))
    replace B := Ba B (Obj.cells #[Value.int IntKind.i64 V, Value.slice a3 cs.length c3] 26)
    generalize w3.alloc (Obj.cells #[Value.int IntKind.i64 V, Value.slice a3 cs.length c3] 26) = w3' at *
    generalize w3.heap.size = β_c at *
    have hnV : n % V < V := Nat.mod_lt _ (by omega)
    have hmV : (V - n % V) % V < V := Nat.mod_lt _ (by omega)
    have hM : ((V : Int) - (n : Int) % (V : Int)) % (V : Int) = (((V - n % V) % V : Nat) : Int) := by
      rw [Int.natCast_emod, ← Int.natCast_emod n V]; congr 1; omega
    have hi0 : 0 ≤ (n : Int) % (V : Int) := Int.emod_nonneg _ (by omega)
    have hi1 : (n : Int) % (V : Int) < (V : Int) := Int.emod_lt_of_pos _ (by omega)
    have hVp : (0 : Int) < (V : Int) := by omega
    have hV0 : ¬ (V : Int) = 0 := by omega
    have hV0n : ¬ V = 0 := by omega
    have hj0 : 0 ≤ ((V : Int) - (n : Int) % (V : Int)) % (V : Int) := Int.emod_nonneg _ (by omega)
    have hj1 : ((V : Int) - (n : Int) % (V : Int)) % (V : Int) < (V : Int) := Int.emod_lt_of_pos _ (by omega)
    have ht1 : Int.tmod (n : Int) (V : Int) = (n : Int) % (V : Int) := Int.tmod_eq_emod_of_nonneg (by omega)
    have ht2 : Int.tmod ((V : Int) - (n : Int) % (V : Int)) (V : Int) = ((V : Int) - (n : Int) % (V : Int)) % (V : Int) := Int.tmod_eq_emod_of_nonneg (by omega)
    have hw1 : IntKind.i64.wrap ((n : Int) % (V : Int)) = (n : Int) % (V : Int) := i64_small (by omega) (by omega)
    have hw2 : IntKind.i64.wrap ((V : Int) - (n : Int) % (V : Int)) = (V : Int) - (n : Int) % (V : Int) := i64_small (by omega) (by omega)
    have hw3 : IntKind.i64.wrap (((V : Int) - (n : Int) % (V : Int)) % (V : Int)) = ((V : Int) - (n : Int) % (V : Int)) % (V : Int) := i64_small (by omega) (by omega)
    clear g3
    have hT2 : ∀ u : World, Rd u a3 cs → Calls Try.prog 34 #[.agg #[.int .i64 V, .slice a3 cs.length c3], .int .i64 ((-((n : Int) % (V : Int))) % (V : Int))] u (RetB u ((V : Int), xs, true)) := fun u hu => by
      have e : (-((n : Int) % (V : Int))) % (V : Int) = ((V : Int) - (n : Int) % (V : Int)) % (V : Int) := by simp
      have h := implTurn_any V a3 c3 cs (((V - n % V) % V : Nat) : Int) u hu
      rw [e, hM]
      rwa [E2] at h
    have HT2 : Hid _ := hT2
    clear hT2 hM hnV hmV E2
    obtain ⟨x_b, y_b⟩ := b_b.cells
    have l_b := b_b.lt
    obtain ⟨x_c, y_c⟩ := b_c.cells
    have l_c := b_c.lt
    have bz_b := b_b.alloc (Obj.cells #[Value.int IntKind.i64 0, Value.slice none 0 0] 26)
    have rz_b := r_b.later (Ba (Below.refl _ _) (Obj.cells #[Value.int IntKind.i64 0, Value.slice none 0 0] 26))
    have bz_c := b_c.alloc (Obj.cells #[Value.int IntKind.i64 0, Value.slice none 0 0] 26)
    have rz_c := r_c.later (Ba (Below.refl _ _) (Obj.cells #[Value.int IntKind.i64 0, Value.slice none 0 0] 26))
    have bZ := Blk.new w3' (Value.int IntKind.i64 0) (Value.slice none 0 0) 26
    first | (go_region_held3 (fun u => u.cell? ⟨β_b, 0, none⟩ = some (Value.int IntKind.i64 V) ∧ u.cell? ⟨β_b, 1, none⟩ = some (Value.slice a1 xs.length c1) ∧ u.cell? ⟨β_c, 0, none⟩ = some (Value.int IntKind.i64 V) ∧ u.cell? ⟨β_c, 1, none⟩ = some (Value.slice a3 cs.length c3)) (first | exact ⟨x_b, y_b, x_c, y_c⟩ | exact ⟨(acell _ _ _ l_b).trans x_b, (acell _ _ _ l_b).trans y_b, (acell _ _ _ l_c).trans x_c, (acell _ _ _ l_c).trans y_c⟩ | exact ⟨x4_b, y4_b, x4_c, y4_c⟩ | exact ⟨(acell _ _ _ l4_b).trans x4_b, (acell _ _ _ l4_b).trans y4_b, (acell _ _ _ l4_c).trans x4_c, (acell _ _ _ l4_c).trans y4_c⟩ | (refine ⟨?_, ?_, ?_, ?_⟩ <;> (rw [World.cell?_setCell_far _ _ _ _ (by simp <;> omega), World.cell?_setCell_far _ _ _ _ (by simp <;> omega)]; assumption)) | (refine ⟨?_, ?_, ?_, ?_⟩ <;> assumption) | (simp [*]; done))
      (first
        | (go_at_call 34; refine (HT2.out _ ?_).mono ?_; exact r_c; intro e w4 h4; obtain ⟨a4, c4, rfl, g4, hb4⟩ := h4.yes (by omega) hx; replace hb4 := undrewG hb4; have b4_b := b_b.next hb4; obtain ⟨x4_b, y4_b⟩ := b4_b.cells; have l4_b := b4_b.lt; have b4_c := b_c.next hb4; obtain ⟨x4_c, y4_c⟩ := b4_c.cells; have l4_c := b4_c.lt)
        | (go_at_call 34; refine (HT2.out _ ?_).mono ?_; exact rz_c; intro e w4 h4; obtain ⟨a4, c4, rfl, g4, hb4⟩ := h4.yes (by omega) hx; replace hb4 := undrewG hb4; have b4_b := bz_b.next hb4; obtain ⟨x4_b, y4_b⟩ := b4_b.cells; have l4_b := b4_b.lt; have b4_c := bz_c.next hb4; obtain ⟨x4_c, y4_c⟩ := b4_c.cells; have l4_c := b4_c.lt; have bZ4 := bZ.next hb4; obtain ⟨xZ4, yZ4⟩ := bZ4.cells; have fZ0 := frozen_of_row w4 _ 0 _ _ bZ4; have fZ1 := frozen_of_row w4 _ 1 _ _ bZ4))) | fail
    all_goals first
      | (have hbT : Below w3'.heap.size w3' (w4.alloc (Obj.cells #[Value.int IntKind.i64 V, Value.slice a4 xs.length c4] 26)) := Ba hb4 _; have b_d := Blk.new w4 (Value.int IntKind.i64 V) (Value.slice a4 xs.length c4) 26; have r_d : Rd (w4.alloc (Obj.cells #[Value.int IntKind.i64 V, Value.slice a4 xs.length c4] 26)) a4 xs := g4.1.later (Ba (Below.refl _ _) _); replace b_b := b_b.next hbT; replace r_b := r_b.later hbT; replace b_c := b_c.next hbT; replace r_c := r_c.later hbT; replace B := chain B hbT; clear hbT hb4 g4 bZ x_b y_b l_b bz_b rz_b b4_b x4_b y4_b l4_b x_c y_c l_c bz_c rz_c b4_c x4_c y4_c l4_c; generalize w4.alloc (Obj.cells #[Value.int IntKind.i64 V, Value.slice a4 xs.length c4] 26) = u4 at *; generalize w4.heap.size = β_d at *)
      | (have hbT : Below w3'.heap.size w3' ((w4.setCell ⟨w3'.heap.size, 0, none⟩ (Value.int IntKind.i64 V)).setCell ⟨w3'.heap.size, 1, none⟩ (Value.slice a4 xs.length c4)) := (((Ba (Below.refl _ _) _).trans (hb4.mono (by simp))).setCell (Nat.le_refl _) _).setCell (Nat.le_refl _) _; have b_d := (bZ4.put0 (Value.int IntKind.i64 V)).put1 (Value.slice a4 xs.length c4); have gS : Dw w3'.heap.size w4 ((w4.setCell ⟨w3'.heap.size, 0, none⟩ (Value.int IntKind.i64 V)).setCell ⟨w3'.heap.size, 1, none⟩ (Value.slice a4 xs.length c4)) := (gsc _ ⟨w3'.heap.size, 0, none⟩ _).trans (gsc _ ⟨w3'.heap.size, 1, none⟩ _); have r_d : Rd ((w4.setCell ⟨w3'.heap.size, 0, none⟩ (Value.int IntKind.i64 V)).setCell ⟨w3'.heap.size, 1, none⟩ (Value.slice a4 xs.length c4)) a4 xs := (g4.far gS (by simp)).1; replace b_b := b_b.next hbT; replace r_b := r_b.later hbT; replace b_c := b_c.next hbT; replace r_c := r_c.later hbT; replace B := chain B hbT; clear hbT hb4 g4 gS bZ bZ4 xZ4 yZ4 fZ0 fZ1 x_b y_b l_b bz_b rz_b b4_b x4_b y4_b l4_b x_c y_c l_c bz_c rz_c b4_c x4_c y4_c l4_c; generalize ((w4.setCell ⟨w3'.heap.size, 0, none⟩ (Value.int IntKind.i64 V)).setCell ⟨w3'.heap.size, 1, none⟩ (Value.slice a4 xs.length c4)) = u4 at *; generalize w3'.heap.size = β_d at *)
    all_goals clear HT2 hi0 hi1 hVp hV0 hV0n hj0 hj1 ht1 ht2 hw1 hw2 hw3
    all_goals go_wp2_with fail
    all_goals
      have hSM : ∀ (u : World) (a c b d), Rd u a xs → Rd u b xs → Calls Try.prog 24 #[.agg #[.int .i64 V, .slice a xs.length c], .agg #[.int .i64 V, .slice b xs.length d]] u fun e w' => e = .returned (.bool true) ∧ Below u.heap.size u w' := fun u a c b d h1 h2 => by
        have h := same_any V V a b c d xs xs u h1 h2
        simpa using h
      have hN1 : ∀ (u : World) (a c), Rd u a cs → Calls Try.prog 31 #[.agg #[.int .i64 V, .slice a cs.length c]] u fun e w' => e = .returned (.int .i64 (k : Int)) ∧ Below u.heap.size u w' := fun u a c h => by
        have h := implOnes_any V a c cs u h
        rwa [E4] at h
      have hN2 : ∀ (u : World) (a c), Rd u a xs → Calls Try.prog 31 #[.agg #[.int .i64 V, .slice a xs.length c]] u fun e w' => e = .returned (.int .i64 (k : Int)) ∧ Below u.heap.size u w' := fun u a c h => by
        have h := implOnes_any V a c xs u h
        rwa [E3] at h
      have HSM : Hid _ := hSM
      have HN1 : Hid _ := hN1
      have HN2 : Hid _ := hN2
      clear hSM hN1 hN2 E1 E4
      obtain ⟨x_b, y_b⟩ := b_b.cells
      have l_b := b_b.lt
      obtain ⟨x_c, y_c⟩ := b_c.cells
      have l_c := b_c.lt
      obtain ⟨x_d, y_d⟩ := b_d.cells
      have l_d := b_d.lt
      go_region_held3 (fun u => u.cell? ⟨β_b, 0, none⟩ = some (Value.int IntKind.i64 V) ∧ u.cell? ⟨β_b, 1, none⟩ = some (Value.slice a1 xs.length c1) ∧ u.cell? ⟨β_c, 0, none⟩ = some (Value.int IntKind.i64 V) ∧ u.cell? ⟨β_c, 1, none⟩ = some (Value.slice a3 cs.length c3) ∧ u.cell? ⟨β_d, 0, none⟩ = some (Value.int IntKind.i64 V) ∧ u.cell? ⟨β_d, 1, none⟩ = some (Value.slice a4 xs.length c4)) (first | (refine ⟨?_, ?_, ?_, ?_, ?_, ?_⟩ <;> assumption) | (simp [*]; done))
        (first
          | (go_at_call 24; refine (HSM.out _ _ _ _ _ ?_ ?_).mono ?_; exact r_d; exact r_b; rintro e w5 ⟨rfl, hb5⟩; replace hb5 := undrewG hb5; have b5_b := b_b.next hb5; have r5_b := r_b.later hb5; obtain ⟨x5_b, y5_b⟩ := b5_b.cells; have b5_c := b_c.next hb5; have r5_c := r_c.later hb5; obtain ⟨x5_c, y5_c⟩ := b5_c.cells; have b5_d := b_d.next hb5; have r5_d := r_d.later hb5; obtain ⟨x5_d, y5_d⟩ := b5_d.cells)
          | (go_at_call_of 31 cs.length; refine (HN1.out _ _ _ r5_c).mono ?_; rintro e w6 ⟨rfl, hb6⟩; have b6_b := b5_b.next hb6; have r6_b := r5_b.later hb6; obtain ⟨x6_b, y6_b⟩ := b6_b.cells; have b6_c := b5_c.next hb6; have r6_c := r5_c.later hb6; obtain ⟨x6_c, y6_c⟩ := b6_c.cells; have b6_d := b5_d.next hb6; have r6_d := r5_d.later hb6; obtain ⟨x6_d, y6_d⟩ := b6_d.cells)
          | (go_at_call_of 31 xs.length; refine (HN2.out _ _ _ r6_b).mono ?_; rintro e w7 ⟨rfl, hb7⟩; have b7_b := b6_b.next hb7; have r7_b := r6_b.later hb7; obtain ⟨x7_b, y7_b⟩ := b7_b.cells; have b7_c := b6_c.next hb7; have r7_c := r6_c.later hb7; obtain ⟨x7_c, y7_c⟩ := b7_c.cells; have b7_d := b6_d.next hb7; have r7_d := r6_d.later hb7; obtain ⟨x7_d, y7_d⟩ := b7_d.cells))
      have bb := b7_b
      have rb := r7_b
      have BB := chain (chain (chain B hb5) hb6) hb7
      clear B b_b r_b b_c r_c b_d r_d hb5 hb6 hb7 HSM HN1 b5_b r5_b x5_b y5_b b5_c r5_c x5_c y5_c b5_d r5_d x5_d y5_d b6_b r6_b x6_b y6_b b6_c r6_c x6_c y6_c b6_d r6_d x6_d y6_d b7_b r7_b x7_b y7_b b7_c r7_c x7_c y7_c b7_d r7_d x7_d y7_d x_b y_b l_b x_c y_c l_c x_d y_d l_d
      have b_b := bb
      have r_b := rb
      have B := BB
      clear bb rb BB
      obtain ⟨x_b, y_b⟩ := b_b.cells
      have l_b := b_b.lt
      have hkne : ((k : Int) != (k : Int)) = false := by simp

      by_cases h3 : 3 * V ≤ 4096
      · obtain ⟨ys, ys1, ys2, F1, F2⟩ := rep_facts hok h3 k E3
        have h3i : (3 : Int) * (V : Int) ≤ 4096 := by omega
        go_wp2_with fail
        have hT := implRep_any V a1 c1 xs 3 w7 r_b
        rw [F1] at hT
        refine hT.mono ?_
        intro e w8 h8
        obtain ⟨a8, c8, rfl, g8, hb8⟩ := h8.yes (by omega) ys2
        clear hT h8
        clear x_b y_b l_b
        replace b_b := b_b.next hb8
        replace r_b := r_b.later hb8
        replace B := chain B hb8
        obtain ⟨x_b, y_b⟩ := b_b.cells
        have l_b := b_b.lt
        go_wp2_with fail
        clear x_b y_b l_b
        have b_r := Blk.new w8 (Value.int IntKind.i64 ((V : Int) * 3)) (Value.slice a8 ys.length c8) 26
        have r_r : Rd (w8.alloc (Obj.cells #[Value.int IntKind.i64 ((V : Int) * 3), Value.slice a8 ys.length c8] 26)) a8 ys := g8.1.later (Ba (Below.refl _ _) _)
        replace b_b := b_b.alloc (Obj.cells #[Value.int IntKind.i64 ((V : Int) * 3), Value.slice a8 ys.length c8] 26)
        replace r_b := r_b.later (Ba (Below.refl _ _) (Obj.cells #[Value.int IntKind.i64 ((V : Int) * 3), Value.slice a8 ys.length c8] 26))
        replace B := Ba B (Obj.cells #[Value.int IntKind.i64 ((V : Int) * 3), Value.slice a8 ys.length c8] 26)
        generalize w8.alloc (Obj.cells #[Value.int IntKind.i64 ((V : Int) * 3), Value.slice a8 ys.length c8] 26) = w8' at *
        generalize w8.heap.size = β_r at *
        have hN3 : ∀ (u : World) (a c), Rd u a ys → Calls Try.prog 31 #[.agg #[.int .i64 ((V : Int) * 3), .slice a ys.length c]] u fun e w' => e = .returned (.int .i64 (3 * (k : Int))) ∧ Below u.heap.size u w' := fun u a c h => by
          have h := implOnes_any ((V : Int) * 3) a c ys u h
          rwa [F2] at h
        have HN3 : Hid _ := hN3
        clear hN3 F1 F2 g8
        have hk3 : IntKind.i64.wrap (3 * (k : Int)) = 3 * (k : Int) := i64_small (by omega) (by omega)
        have hk3n : ((3 * (k : Int)) != (3 * (k : Int))) = false := by simp
        obtain ⟨x_b, y_b⟩ := b_b.cells
        have l_b := b_b.lt
        obtain ⟨x_r, y_r⟩ := b_r.cells
        have l_r := b_r.lt
        go_region_held3 (fun u => u.cell? ⟨β_b, 0, none⟩ = some (Value.int IntKind.i64 V) ∧ u.cell? ⟨β_b, 1, none⟩ = some (Value.slice a1 xs.length c1) ∧ u.cell? ⟨β_r, 0, none⟩ = some (Value.int IntKind.i64 ((V : Int) * 3)) ∧ u.cell? ⟨β_r, 1, none⟩ = some (Value.slice a8 ys.length c8)) (first | (refine ⟨?_, ?_, ?_, ?_⟩ <;> assumption) | (simp [*]; done))
          (first
            | (go_at_call_of 31 ys.length; refine (HN3.out _ _ _ ?_).mono ?_; exact r_r; rintro e w9 ⟨rfl, hb9⟩; replace hb9 := undrewG hb9; have b9_b := b_b.next hb9; have r9_b := r_b.later hb9; obtain ⟨x9_b, y9_b⟩ := b9_b.cells; have b9_r := b_r.next hb9; have r9_r := r_r.later hb9; obtain ⟨x9_r, y9_r⟩ := b9_r.cells)
            | (go_at_call_of 31 xs.length; refine (HN2.out _ _ _ r9_b).mono ?_; rintro e w10 ⟨rfl, hb10⟩; have b10_b := b9_b.next hb10; have r10_b := r9_b.later hb10; obtain ⟨x10_b, y10_b⟩ := b10_b.cells; have b10_r := b9_r.next hb10; have r10_r := r9_r.later hb10; obtain ⟨x10_r, y10_r⟩ := b10_r.cells))
        have bb_b := b10_b
        have rr_b := r10_b
        have BB := (chain (chain B hb9) hb10)
        clear B b_b r_b x_b y_b l_b b_r r_r x_r y_r l_r hb9 hb10 b9_b r9_b x9_b y9_b b9_r r9_r x9_r y9_r b10_b r10_b x10_b y10_b b10_r r10_r x10_r y10_r
        have b_b := bb_b
        have r_b := rr_b
        clear bb_b rr_b
        have B := BB
        clear BB
        obtain ⟨x_b, y_b⟩ := b_b.cells
        have l_b := b_b.lt
        go_wp2_with fail
        by_cases h4 : V < 4096
        · obtain ⟨zs, zs1, zs2, G1, G2⟩ := wid_facts hok h4 k E3
          have hT := implWid_any V a1 c1 xs 1 false w10 r_b
          rw [G1] at hT
          refine hT.mono ?_
          intro e w20 h20
          obtain ⟨a20, c20, rfl, g20, hb20⟩ := h20.yes (by omega) zs2
          clear hT h20
          clear x_b y_b l_b
          replace b_b := b_b.next hb20
          replace r_b := r_b.later hb20
          replace B := chain B hb20
          obtain ⟨x_b, y_b⟩ := b_b.cells
          have l_b := b_b.lt
          go_wp2_with fail
          clear x_b y_b l_b
          have b_w := Blk.new w20 (Value.int IntKind.i64 ((V : Int) + 1)) (Value.slice a20 zs.length c20) 26
          have r_w : Rd (w20.alloc (Obj.cells #[Value.int IntKind.i64 ((V : Int) + 1), Value.slice a20 zs.length c20] 26)) a20 zs := g20.1.later (Ba (Below.refl _ _) _)
          replace b_b := b_b.alloc (Obj.cells #[Value.int IntKind.i64 ((V : Int) + 1), Value.slice a20 zs.length c20] 26)
          replace r_b := r_b.later (Ba (Below.refl _ _) (Obj.cells #[Value.int IntKind.i64 ((V : Int) + 1), Value.slice a20 zs.length c20] 26))
          replace B := Ba B (Obj.cells #[Value.int IntKind.i64 ((V : Int) + 1), Value.slice a20 zs.length c20] 26)
          generalize w20.alloc (Obj.cells #[Value.int IntKind.i64 ((V : Int) + 1), Value.slice a20 zs.length c20] 26) = w20' at *
          generalize w20.heap.size = β_w at *
          have hN4 : ∀ (u : World) (a c), Rd u a zs → Calls Try.prog 31 #[.agg #[.int .i64 ((V : Int) + 1), .slice a zs.length c]] u fun e w' => e = .returned (.int .i64 (k : Int)) ∧ Below u.heap.size u w' := fun u a c h => by
            have h := implOnes_any ((V : Int) + 1) a c zs u h
            rwa [G2] at h
          have HN4 : Hid _ := hN4
          clear hN4 G1 G2 g20
          have hV4 : ((V : Int) == 4096) = false := by simp; omega
          have hV4n : ¬ V = 4096 := by omega
          obtain ⟨x_b, y_b⟩ := b_b.cells
          have l_b := b_b.lt
          obtain ⟨x_w, y_w⟩ := b_w.cells
          have l_w := b_w.lt
          first | (go_region_held3 (fun u => u.cell? ⟨β_b, 0, none⟩ = some (Value.int IntKind.i64 V) ∧ u.cell? ⟨β_b, 1, none⟩ = some (Value.slice a1 xs.length c1) ∧ u.cell? ⟨β_w, 0, none⟩ = some (Value.int IntKind.i64 ((V : Int) + 1)) ∧ u.cell? ⟨β_w, 1, none⟩ = some (Value.slice a20 zs.length c20)) (first | (refine ⟨?_, ?_, ?_, ?_⟩ <;> assumption) | (simp [*]; done))
            (first
              | (go_at_call_of 31 zs.length; refine (HN4.out _ _ _ ?_).mono ?_; exact r_w; rintro e w21 ⟨rfl, hb21⟩; replace hb21 := undrewG hb21; have b21_b := b_b.next hb21; have r21_b := r_b.later hb21; obtain ⟨x21_b, y21_b⟩ := b21_b.cells; have b21_w := b_w.next hb21; have r21_w := r_w.later hb21; obtain ⟨x21_w, y21_w⟩ := b21_w.cells)
              | (go_at_call_of 31 xs.length; refine (HN2.out _ _ _ r21_b).mono ?_; rintro e w22 ⟨rfl, hb22⟩; have b22_b := b21_b.next hb22; have r22_b := r21_b.later hb22; obtain ⟨x22_b, y22_b⟩ := b22_b.cells; have b22_w := b21_w.next hb22; have r22_w := r21_w.later hb22; obtain ⟨x22_w, y22_w⟩ := b22_w.cells))) | fail
          have B22 := chain (chain B hb21) hb22
          go_wp2
          go_ret
          exact ⟨ret_bool (by simp), B22⟩
        · exfalso; omega
      · have h3i : ¬ (3 : Int) * (V : Int) ≤ 4096 := by omega
        go_wp2_with fail
        by_cases h4 : V < 4096
        · obtain ⟨zs, zs1, zs2, G1, G2⟩ := wid_facts hok h4 k E3
          have hT := implWid_any V a1 c1 xs 1 false w7 r_b
          rw [G1] at hT
          refine hT.mono ?_
          intro e w20 h20
          obtain ⟨a20, c20, rfl, g20, hb20⟩ := h20.yes (by omega) zs2
          clear hT h20
          clear x_b y_b l_b
          replace b_b := b_b.next hb20
          replace r_b := r_b.later hb20
          replace B := chain B hb20
          obtain ⟨x_b, y_b⟩ := b_b.cells
          have l_b := b_b.lt
          go_wp2_with fail
          clear x_b y_b l_b
          have b_w := Blk.new w20 (Value.int IntKind.i64 ((V : Int) + 1)) (Value.slice a20 zs.length c20) 26
          have r_w : Rd (w20.alloc (Obj.cells #[Value.int IntKind.i64 ((V : Int) + 1), Value.slice a20 zs.length c20] 26)) a20 zs := g20.1.later (Ba (Below.refl _ _) _)
          replace b_b := b_b.alloc (Obj.cells #[Value.int IntKind.i64 ((V : Int) + 1), Value.slice a20 zs.length c20] 26)
          replace r_b := r_b.later (Ba (Below.refl _ _) (Obj.cells #[Value.int IntKind.i64 ((V : Int) + 1), Value.slice a20 zs.length c20] 26))
          replace B := Ba B (Obj.cells #[Value.int IntKind.i64 ((V : Int) + 1), Value.slice a20 zs.length c20] 26)
          generalize w20.alloc (Obj.cells #[Value.int IntKind.i64 ((V : Int) + 1), Value.slice a20 zs.length c20] 26) = w20' at *
          generalize w20.heap.size = β_w at *
          have hN4 : ∀ (u : World) (a c), Rd u a zs → Calls Try.prog 31 #[.agg #[.int .i64 ((V : Int) + 1), .slice a zs.length c]] u fun e w' => e = .returned (.int .i64 (k : Int)) ∧ Below u.heap.size u w' := fun u a c h => by
            have h := implOnes_any ((V : Int) + 1) a c zs u h
            rwa [G2] at h
          have HN4 : Hid _ := hN4
          clear hN4 G1 G2 g20
          have hV4 : ((V : Int) == 4096) = false := by simp; omega
          have hV4n : ¬ V = 4096 := by omega
          obtain ⟨x_b, y_b⟩ := b_b.cells
          have l_b := b_b.lt
          obtain ⟨x_w, y_w⟩ := b_w.cells
          have l_w := b_w.lt
          first | (go_region_held3 (fun u => u.cell? ⟨β_b, 0, none⟩ = some (Value.int IntKind.i64 V) ∧ u.cell? ⟨β_b, 1, none⟩ = some (Value.slice a1 xs.length c1) ∧ u.cell? ⟨β_w, 0, none⟩ = some (Value.int IntKind.i64 ((V : Int) + 1)) ∧ u.cell? ⟨β_w, 1, none⟩ = some (Value.slice a20 zs.length c20)) (first | (refine ⟨?_, ?_, ?_, ?_⟩ <;> assumption) | (simp [*]; done))
            (first
              | (go_at_call_of 31 zs.length; refine (HN4.out _ _ _ ?_).mono ?_; exact r_w; rintro e w21 ⟨rfl, hb21⟩; replace hb21 := undrewG hb21; have b21_b := b_b.next hb21; have r21_b := r_b.later hb21; obtain ⟨x21_b, y21_b⟩ := b21_b.cells; have b21_w := b_w.next hb21; have r21_w := r_w.later hb21; obtain ⟨x21_w, y21_w⟩ := b21_w.cells)
              | (go_at_call_of 31 xs.length; refine (HN2.out _ _ _ r21_b).mono ?_; rintro e w22 ⟨rfl, hb22⟩; have b22_b := b21_b.next hb22; have r22_b := r21_b.later hb22; obtain ⟨x22_b, y22_b⟩ := b22_b.cells; have b22_w := b21_w.next hb22; have r22_w := r21_w.later hb22; obtain ⟨x22_w, y22_w⟩ := b22_w.cells))) | fail
          have B22 := chain (chain B hb21) hb22
          go_wp2
          go_ret
          exact ⟨ret_bool (by simp), B22⟩
        · have hV4 : V = 4096 := by omega
          have hNo : widR V xs 1 false = noR := by rw [widR, if_neg (by omega)]
          have hT := implWid_any V a1 c1 xs 1 false w7 r_b
          rw [hNo] at hT
          refine hT.mono ?_
          intro e w20 h20
          obtain ⟨a20, c20, rfl, hb20⟩ := h20.none
          clear hT h20
          clear x_b y_b l_b
          replace b_b := b_b.next hb20
          replace r_b := r_b.later hb20
          replace B := chain B hb20
          obtain ⟨x_b, y_b⟩ := b_b.cells
          have l_b := b_b.lt
          have hV4i : ((V : Int) == 4096) = true := by simp; omega
          have HV4 : Hid _ := hV4
          clear hV4
          go_wp2_with fail
          clear x_b y_b l_b
          replace b_b := b_b.alloc (Obj.cells #[Value.int IntKind.i64 0, Value.slice a20 0 c20] 26)
          replace r_b := r_b.later (Ba (Below.refl _ _) (Obj.cells #[Value.int IntKind.i64 0, Value.slice a20 0 c20] 26))
          replace B := Ba B (Obj.cells #[Value.int IntKind.i64 0, Value.slice a20 0 c20] 26)
          generalize w20.alloc (Obj.cells #[Value.int IntKind.i64 0, Value.slice a20 0 c20] 26) = w20' at *
          generalize w20.heap.size = β_w20 at *
          obtain ⟨x_b, y_b⟩ := b_b.cells
          have l_b := b_b.lt
          have e4 := HV4.out
          clear hV4i
          subst e4
          go_quiet (fail)
          go_wp2
          go_ret
          exact ⟨rfl, below_drewN B _⟩
  · have E := turn_no hc
    have hT := specTurn_any W a1 c1 xs n w1' r_b
    rw [E] at hT
    refine hT.mono ?_
    intro e w2 h2
    obtain ⟨a2, c2, rfl, hb2⟩ := h2.none
    replace b_b := b_b.next hb2
    replace r_b := r_b.later hb2
    replace B := chain B hb2
    obtain ⟨x_b, y_b⟩ := b_b.cells
    have l_b := b_b.lt
    go_wp2_with fail
    clear x_b y_b l_b
    replace b_b := b_b.alloc (Obj.cells #[Value.int IntKind.i64 0, Value.slice a2 0 c2] 26)
    replace r_b := r_b.later (Ba (Below.refl _ _) (Obj.cells #[Value.int IntKind.i64 0, Value.slice a2 0 c2] 26))
    replace B := Ba B (Obj.cells #[Value.int IntKind.i64 0, Value.slice a2 0 c2] 26)
    generalize w2.alloc (Obj.cells #[Value.int IntKind.i64 0, Value.slice a2 0 c2] 26) = w2' at *
    generalize w2.heap.size = β_w2 at *
    have hT := implTurn_any W a1 c1 xs n w2' r_b
    rw [E] at hT
    refine hT.mono ?_
    intro e w3 h3
    obtain ⟨a3, c3, rfl, hb3⟩ := h3.none
    replace B := chain B hb3
    go_wp2
    go_ret
    exact ⟨rfl, Ba B _⟩

theorem walk_FnBitsTurns (a : Option Addr) (n c : Nat) (hn : n ≤ 9223372036854775807) (w : World) (hx : n ≤ 1048576 → ∃ bs : List Nat, bs.length = n ∧ RdB w a bs) :
    Calls Try.prog 5 #[.slice a n c] w fun e w' => e = .returned (.bool true) ∧ Below w.heap.size w w' := by
  by_cases h : n ≤ 1048576
  · obtain ⟨bs, rfl, hr⟩ := hx h
    exact law_turns a c bs w hr h
  · go_enter Try.func5, Try.ntmps5
    go_wp2_with fail
    refine (big_any a n c w hn).mono ?_
    rw [show decide (1048576 < n) = true by simp; omega]
    rintro e w ⟨rfl, rfl⟩
    go_wp2
    go_ret
    exact ⟨rfl, Below.refl _ _⟩

end Go.Proofs.Ytobkemdffhhlfaa
