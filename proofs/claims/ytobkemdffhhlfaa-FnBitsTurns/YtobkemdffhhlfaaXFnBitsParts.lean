/- The law FnBitsParts returns true, whatever it is handed. -/
import Derived.Test.YtobkemdffhhlfaaF7
import Derived.Test.YtobkemdffhhlfaaF6
namespace Go.Proofs.Ytobkemdffhhlfaa
set_option linter.unusedVariables false
set_option linter.unusedSimpArgs false
open Go.RowKit

theorem i64_small {x : Int} (h1 : -9223372036854775808 ≤ x) (h2 : x ≤ 9223372036854775807) : IntKind.i64.wrap x = x := by
  simp [IntKind.wrap, IntKind.signed, IntKind.bits]
  omega

theorem RetB.yes {w w' : World} {W : Int} {ys : List Nat} {e : Ending} (h : RetB w (W, ys, true) e w') (hl : ys.length ≤ 1048576) (hy : ∀ x ∈ ys, x < 18446744073709551616) :
    ∃ a c, e = .returned (.tuple #[.agg #[.int .i64 W, .slice a ys.length c], .bool true]) ∧ Got w' w.heap.size a ys ∧ Below w.heap.size w w' := by
  obtain ⟨a, c, he, hf, hb⟩ := h
  exact ⟨a, c, he, hf.got hl hy, hb⟩

set_option maxHeartbeats 2000000 in
set_option maxRecDepth 100000 in
theorem law_parts (a : Option Addr) (c : Nat) (bs : List Nat) (w : World) (hr : RdB w a bs) (hl : bs.length ≤ 1048576) :
    Calls Try.prog 4 #[.slice a bs.length c] w fun e w' => e = .returned (.bool true) ∧ Below w.heap.size w w' := by
  go_enter Try.func4, Try.ntmps4
  go_wp2_with fail
  refine (big_any a bs.length c w (by omega)).mono ?_
  rw [show decide (1048576 < bs.length) = false by simp; omega]
  rintro e w ⟨rfl, rfl⟩
  go_wp2_with fail
  refine (draw_any a c bs _ hr).mono ?_
  rintro e w1 ⟨a1, c1, W, xs, rfl, hW1, hW2, hg, hb1⟩
  have b0 := Blk.new w1 (Value.int IntKind.i64 W) (Value.slice a1 xs.length c1) 26
  have r0 : Rd (w1.alloc (Obj.cells #[Value.int IntKind.i64 W, Value.slice a1 xs.length c1] 26)) a1 xs := (hg.later (Ba (Below.refl _ _) _)).1
  have B0 : Below w.heap.size w (w1.alloc (Obj.cells #[Value.int IntKind.i64 W, Value.slice a1 xs.length c1] 26)) := Ba hb1 _
  have hx := hg.1.2.1
  go_wp2_with fail
  refine (specOk_any _ _ _ _ _ r0).mono ?_
  generalize w1.heap.size = β at *
  generalize w1.alloc (Obj.cells #[Value.int IntKind.i64 W, Value.slice a1 xs.length c1] 26) = w2 at *
  rintro e w3 ⟨rfl, hb3⟩
  have b3 := b0.next hb3
  have r3 := r0.later hb3
  have B3 := chain B0 hb3
  clear hb3 b0 r0 B0 hg hb1
  obtain ⟨k0, k1⟩ := b3.cells
  have hIO : ∀ u : World, Rd u a1 xs → Calls Try.prog 28 #[.agg #[.int .i64 W, .slice a1 xs.length c1]] u fun e w' => e = .returned (.bool (rightB W xs)) ∧ Below u.heap.size u w' := fun u hu => implOk_any W a1 c1 xs u hu
  have hSO : ∀ u : World, Rd u a1 xs → Calls Try.prog 21 #[.agg #[.int .i64 W, .slice a1 xs.length c1]] u fun e w' => e = .returned (.bool (rightB W xs)) ∧ Below u.heap.size u w' := fun u hu => specOk_any W a1 c1 xs u hu
  cases hok : rightB W xs with
  | false =>
    rw [hok] at hIO hSO
    have HIO : Hid _ := hIO
    have HSO : Hid _ := hSO
    clear hIO hSO
    go_wp2_with fail
    go_region_held3 (fun u => u.cell? ⟨β, 0, none⟩ = some (Value.int IntKind.i64 W) ∧ u.cell? ⟨β, 1, none⟩ = some (Value.slice a1 xs.length c1)) (first | (refine ⟨?_, ?_⟩ <;> assumption) | simp [*])
      (first
        | (go_at_call 28; refine (HIO.out _ ?_).mono ?_; exact r3; rintro e w4 ⟨rfl, hb4⟩; replace hb4 := undrewG hb4; have b4 := b3.next hb4; have r4 := r3.later hb4; obtain ⟨m0, m1⟩ := b4.cells)
        | (go_at_call 21; refine (HSO.out _ r4).mono ?_; rintro e w5 ⟨rfl, hb5⟩; have b5 := b4.next hb5; obtain ⟨n0, n1⟩ := b5.cells))
    have B5 := chain (chain B3 hb4) hb5
    go_wp2
    go_ret
    exact ⟨rfl, B5⟩
  | true =>
    obtain ⟨hV1, hV2, hVl⟩ := right_W hok
    by_cases h2 : W < 2
    · rw [hok] at hIO hSO
      have HIO : Hid _ := hIO
      have HSO : Hid _ := hSO
      clear hIO hSO
      go_wp2_with fail
      go_region_held3 (fun u => u.cell? ⟨β, 0, none⟩ = some (Value.int IntKind.i64 W) ∧ u.cell? ⟨β, 1, none⟩ = some (Value.slice a1 xs.length c1)) (first | (refine ⟨?_, ?_⟩ <;> assumption) | simp [*])
        (first
          | (go_at_call 28; refine (HIO.out _ ?_).mono ?_; exact r3; rintro e w4 ⟨rfl, hb4⟩; replace hb4 := undrewG hb4; have b4 := b3.next hb4; have r4 := r3.later hb4; obtain ⟨m0, m1⟩ := b4.cells)
          | (go_at_call 21; refine (HSO.out _ r4).mono ?_; rintro e w5 ⟨rfl, hb5⟩; have b5 := b4.next hb5; obtain ⟨n0, n1⟩ := b5.cells))
      have B5 := chain (chain B3 hb4) hb5
      go_wp2
      go_ret
      exact ⟨rfl, B5⟩
    · clear hIO hSO
      obtain ⟨V, rfl⟩ := Int.eq_ofNat_of_zero_le (show 0 ≤ W by omega)
      have hpm : bs.length % (V - 1) < V - 1 := Nat.mod_lt _ (by omega)
      have hP : wrap64 (1 + (bs.length : Int) % ((V : Int) - 1)) = ((1 + bs.length % (V - 1) : Nat) : Int) := by
        have e : (bs.length : Int) % ((V : Int) - 1) = ((bs.length % (V - 1) : Nat) : Int) := by
          rw [Int.natCast_emod]; congr 1; omega
        rw [e, wrap64_of (by omega) (by omega)]
        omega
      have HP : Hid _ := hP
      clear hP
      go_wp2_with fail
      rw [HP.out]
      generalize hpe : 1 + bs.length % (V - 1) = p
      have hp1 : 1 ≤ p := by omega
      have hp2 : p < V := by omega
      clear hpe hpm HP
      obtain ⟨hs, ls, hs1, ls1, hs2, ls2, EH, EL, EJ, n1, n2, E1, E2, E3, hn12⟩ := cut_facts hok hx p hp1 hp2
      have hC1 := (implPart_any (V : Int) a1 c1 xs ((V : Int) - 1) p w3 r3 (wf_small _ (by omega) (by omega)))
      have hC2 : ∀ u : World, Rd u a1 xs → Calls Try.prog 29 #[.agg #[.int .i64 V, .slice a1 xs.length c1], .int .i64 ((p : Int) - 1), .int .i64 0] u (RetB u ((p : Int), ls, true)) := fun u hu => by
        have h := implPart_any (V : Int) a1 c1 xs ((p : Int) - 1) 0 u hu (wf_small _ (by omega) (by omega))
        rwa [EL] at h
      have hC3 : ∀ (u : World) (a c b d), Rd u a hs → Rd u b ls → Calls Try.prog 30 #[.agg #[.int .i64 ((V - p : Nat) : Int), .slice a hs.length c], .agg #[.int .i64 p, .slice b ls.length d]] u (RetB u ((V : Int), xs, true)) := fun u a c b d h1 h2 => by
        have h := implJoin_any ((V - p : Nat) : Int) a c hs p b d ls u h1 h2
        rwa [EJ] at h
      have hN1 : ∀ (u : World) (a c), Rd u a hs → Calls Try.prog 31 #[.agg #[.int .i64 ((V - p : Nat) : Int), .slice a hs.length c]] u fun e w' => e = .returned (.int .i64 (n1 : Int)) ∧ Below u.heap.size u w' := fun u a c h => by
        have h := implOnes_any ((V - p : Nat) : Int) a c hs u h
        rwa [E1] at h
      have hN2 : ∀ (u : World) (a c), Rd u a ls → Calls Try.prog 31 #[.agg #[.int .i64 p, .slice a ls.length c]] u fun e w' => e = .returned (.int .i64 (n2 : Int)) ∧ Below u.heap.size u w' := fun u a c h => by
        have h := implOnes_any p a c ls u h
        rwa [E2] at h
      have hN3 : ∀ (u : World) (a c), Rd u a xs → Calls Try.prog 31 #[.agg #[.int .i64 V, .slice a xs.length c]] u fun e w' => e = .returned (.int .i64 ((n1 : Int) + n2)) ∧ Below u.heap.size u w' := fun u a c h => by
        have h := implOnes_any V a c xs u h
        rwa [E3] at h
      have hSM : ∀ (u : World) (a c b d), Rd u a xs → Rd u b xs → Calls Try.prog 24 #[.agg #[.int .i64 V, .slice a xs.length c], .agg #[.int .i64 V, .slice b xs.length d]] u fun e w' => e = .returned (.bool true) ∧ Below u.heap.size u w' := fun u a c b d h1 h2 => by
        have h := same_any V V a b c d xs xs u h1 h2
        simpa using h
      have HN1 : Hid _ := hN1
      have HN2 : Hid _ := hN2
      have HN3 : Hid _ := hN3
      have HSM : Hid _ := hSM
      clear hN1 hN2 hN3 hSM E1 E2 E3
      rw [EH] at hC1
      have HC2 : Hid _ := hC2
      have HC3 : Hid _ := hC3
      clear hC2 hC3 EH EL EJ
      generalize hq : V - p = q at *
      have hqi : (q : Int) + p = V := by omega
      clear hq
      refine hC1.mono ?_
      intro e w4 h4
      obtain ⟨a4, c4, rfl, g4, hb4⟩ := h4.yes (by omega) hs2
      clear hC1 h4
      have b_b := b3.next hb4
      have r_b := r3.later hb4
      have B := chain B3 hb4
      clear k0 k1 b3 r3 B3 hb4
      obtain ⟨x_b, y_b⟩ := b_b.cells
      have l_b := b_b.lt
      go_wp2_with fail
      clear x_b y_b l_b
      have g4b := g4
      have b_h := Blk.new w4 (Value.int IntKind.i64 q) (Value.slice a4 hs.length c4) 26
      have r_h : Rd (w4.alloc (Obj.cells #[Value.int IntKind.i64 q, Value.slice a4 hs.length c4] 26)) a4 hs := g4.1.later (Ba (Below.refl _ _) _)
      replace b_b := b_b.alloc (Obj.cells #[Value.int IntKind.i64 q, Value.slice a4 hs.length c4] 26)
      replace r_b := r_b.later (Ba (Below.refl _ _) (Obj.cells #[Value.int IntKind.i64 q, Value.slice a4 hs.length c4] 26))
      replace B := Ba B (Obj.cells #[Value.int IntKind.i64 q, Value.slice a4 hs.length c4] 26)
      generalize w4.alloc (Obj.cells #[Value.int IntKind.i64 q, Value.slice a4 hs.length c4] 26) = w4' at *
      generalize w4.heap.size = β_h at *
      refine (HC2.out _ r_b).mono ?_
      intro e w5 h5
      obtain ⟨a5, c5, rfl, g5, hb5⟩ := h5.yes (by omega) ls2
      clear h5
      replace b_b := b_b.next hb5
      replace r_b := r_b.later hb5
      replace b_h := b_h.next hb5
      replace r_h := r_h.later hb5
      replace B := chain B hb5
      obtain ⟨x_b, y_b⟩ := b_b.cells
      have l_b := b_b.lt
      obtain ⟨x_h, y_h⟩ := b_h.cells
      have l_h := b_h.lt
      go_wp2_with fail
      clear x_b y_b l_b
      clear x_h y_h l_h
      have b_l := Blk.new w5 (Value.int IntKind.i64 p) (Value.slice a5 ls.length c5) 26
      have r_l : Rd (w5.alloc (Obj.cells #[Value.int IntKind.i64 p, Value.slice a5 ls.length c5] 26)) a5 ls := g5.1.later (Ba (Below.refl _ _) _)
      replace b_b := b_b.alloc (Obj.cells #[Value.int IntKind.i64 p, Value.slice a5 ls.length c5] 26)
      replace r_b := r_b.later (Ba (Below.refl _ _) (Obj.cells #[Value.int IntKind.i64 p, Value.slice a5 ls.length c5] 26))
      replace b_h := b_h.alloc (Obj.cells #[Value.int IntKind.i64 p, Value.slice a5 ls.length c5] 26)
      replace r_h := r_h.later (Ba (Below.refl _ _) (Obj.cells #[Value.int IntKind.i64 p, Value.slice a5 ls.length c5] 26))
      replace B := Ba B (Obj.cells #[Value.int IntKind.i64 p, Value.slice a5 ls.length c5] 26)
      generalize w5.alloc (Obj.cells #[Value.int IntKind.i64 p, Value.slice a5 ls.length c5] 26) = w5' at *
      generalize w5.heap.size = β_l at *
      refine (HC3.out _ _ _ _ _ r_h r_l).mono ?_
      intro e w6 h6
      obtain ⟨a6, c6, rfl, g6, hb6⟩ := h6.yes (by omega) hx
      clear h6
      replace b_b := b_b.next hb6
      replace r_b := r_b.later hb6
      replace b_h := b_h.next hb6
      replace r_h := r_h.later hb6
      replace b_l := b_l.next hb6
      replace r_l := r_l.later hb6
      replace B := chain B hb6
      obtain ⟨x_b, y_b⟩ := b_b.cells
      have l_b := b_b.lt
      obtain ⟨x_h, y_h⟩ := b_h.cells
      have l_h := b_h.lt
      obtain ⟨x_l, y_l⟩ := b_l.cells
      have l_l := b_l.lt
      go_wp2_with fail
      clear x_b y_b l_b
      clear x_h y_h l_h
      clear x_l y_l l_l
      have b_c := Blk.new w6 (Value.int IntKind.i64 V) (Value.slice a6 xs.length c6) 26
      have r_c : Rd (w6.alloc (Obj.cells #[Value.int IntKind.i64 V, Value.slice a6 xs.length c6] 26)) a6 xs := g6.1.later (Ba (Below.refl _ _) _)
      replace b_b := b_b.alloc (Obj.cells #[Value.int IntKind.i64 V, Value.slice a6 xs.length c6] 26)
      replace r_b := r_b.later (Ba (Below.refl _ _) (Obj.cells #[Value.int IntKind.i64 V, Value.slice a6 xs.length c6] 26))
      replace b_h := b_h.alloc (Obj.cells #[Value.int IntKind.i64 V, Value.slice a6 xs.length c6] 26)
      replace r_h := r_h.later (Ba (Below.refl _ _) (Obj.cells #[Value.int IntKind.i64 V, Value.slice a6 xs.length c6] 26))
      replace b_l := b_l.alloc (Obj.cells #[Value.int IntKind.i64 V, Value.slice a6 xs.length c6] 26)
      replace r_l := r_l.later (Ba (Below.refl _ _) (Obj.cells #[Value.int IntKind.i64 V, Value.slice a6 xs.length c6] 26))
      replace B := Ba B (Obj.cells #[Value.int IntKind.i64 V, Value.slice a6 xs.length c6] 26)
      generalize w6.alloc (Obj.cells #[Value.int IntKind.i64 V, Value.slice a6 xs.length c6] 26) = w6' at *
      generalize w6.heap.size = β_c at *
      obtain ⟨x_b, y_b⟩ := b_b.cells
      have l_b := b_b.lt
      obtain ⟨x_h, y_h⟩ := b_h.cells
      have l_h := b_h.lt
      obtain ⟨x_l, y_l⟩ := b_l.cells
      have l_l := b_l.lt
      obtain ⟨x_c, y_c⟩ := b_c.cells
      have l_c := b_c.lt
      clear HC2 HC3 hVl hok hV1 hW1 hW2 hqi g4 g4b g5 g6
      go_region_held3 (fun u => u.cell? ⟨β, 0, none⟩ = some (Value.int IntKind.i64 V) ∧ u.cell? ⟨β, 1, none⟩ = some (Value.slice a1 xs.length c1) ∧ u.cell? ⟨β_h, 0, none⟩ = some (Value.int IntKind.i64 q) ∧ u.cell? ⟨β_h, 1, none⟩ = some (Value.slice a4 hs.length c4) ∧ u.cell? ⟨β_l, 0, none⟩ = some (Value.int IntKind.i64 p) ∧ u.cell? ⟨β_l, 1, none⟩ = some (Value.slice a5 ls.length c5) ∧ u.cell? ⟨β_c, 0, none⟩ = some (Value.int IntKind.i64 V) ∧ u.cell? ⟨β_c, 1, none⟩ = some (Value.slice a6 xs.length c6)) (first | (refine ⟨?_, ?_, ?_, ?_, ?_, ?_, ?_, ?_⟩ <;> assumption) | (simp [*]; done))
        (first
          | (go_at_call 24; refine (HSM.out _ _ _ _ _ ?_ ?_).mono ?_; exact r_c; exact r_b; rintro e w7 ⟨rfl, hb7⟩; replace hb7 := undrewG hb7; have b7_b := b_b.next hb7; have r7_b := r_b.later hb7; obtain ⟨x7_b, y7_b⟩ := b7_b.cells; have b7_h := b_h.next hb7; have r7_h := r_h.later hb7; obtain ⟨x7_h, y7_h⟩ := b7_h.cells; have b7_l := b_l.next hb7; have r7_l := r_l.later hb7; obtain ⟨x7_l, y7_l⟩ := b7_l.cells; have b7_c := b_c.next hb7; have r7_c := r_c.later hb7; obtain ⟨x7_c, y7_c⟩ := b7_c.cells)
          | (go_at_call_of 31 hs.length; refine (HN1.out _ _ _ r7_h).mono ?_; rintro e w8 ⟨rfl, hb8⟩; have b8_b := b7_b.next hb8; have r8_b := r7_b.later hb8; obtain ⟨x8_b, y8_b⟩ := b8_b.cells; have b8_h := b7_h.next hb8; have r8_h := r7_h.later hb8; obtain ⟨x8_h, y8_h⟩ := b8_h.cells; have b8_l := b7_l.next hb8; have r8_l := r7_l.later hb8; obtain ⟨x8_l, y8_l⟩ := b8_l.cells; have b8_c := b7_c.next hb8; have r8_c := r7_c.later hb8; obtain ⟨x8_c, y8_c⟩ := b8_c.cells)
          | (go_at_call_of 31 ls.length; refine (HN2.out _ _ _ r8_l).mono ?_; rintro e w9 ⟨rfl, hb9⟩; have b9_b := b8_b.next hb9; have r9_b := r8_b.later hb9; obtain ⟨x9_b, y9_b⟩ := b9_b.cells; have b9_h := b8_h.next hb9; have r9_h := r8_h.later hb9; obtain ⟨x9_h, y9_h⟩ := b9_h.cells; have b9_l := b8_l.next hb9; have r9_l := r8_l.later hb9; obtain ⟨x9_l, y9_l⟩ := b9_l.cells; have b9_c := b8_c.next hb9; have r9_c := r8_c.later hb9; obtain ⟨x9_c, y9_c⟩ := b9_c.cells)
          | (go_at_call_of 31 xs.length; refine (HN3.out _ _ _ r9_b).mono ?_; rintro e w10 ⟨rfl, hb10⟩; have b10_b := b9_b.next hb10; have r10_b := r9_b.later hb10; obtain ⟨x10_b, y10_b⟩ := b10_b.cells; have b10_h := b9_h.next hb10; have r10_h := r9_h.later hb10; obtain ⟨x10_h, y10_h⟩ := b10_h.cells; have b10_l := b9_l.next hb10; have r10_l := r9_l.later hb10; obtain ⟨x10_l, y10_l⟩ := b10_l.cells; have b10_c := b9_c.next hb10; have r10_c := r9_c.later hb10; obtain ⟨x10_c, y10_c⟩ := b10_c.cells))
      have B10 := chain (chain (chain (chain B hb7) hb8) hb9) hb10
      go_wp2
      go_ret
      refine ⟨ret_bool ?_, B10⟩
      rw [i64_small (by omega) (by omega)]
      simp

theorem walk_FnBitsParts (a : Option Addr) (n c : Nat) (hn : n ≤ 9223372036854775807) (w : World) (hx : n ≤ 1048576 → ∃ bs : List Nat, bs.length = n ∧ RdB w a bs) :
    Calls Try.prog 4 #[.slice a n c] w fun e w' => e = .returned (.bool true) ∧ Below w.heap.size w w' := by
  by_cases h : n ≤ 1048576
  · obtain ⟨bs, rfl, hr⟩ := hx h
    exact law_parts a c bs w hr h
  · go_enter Try.func4, Try.ntmps4
    go_wp2_with fail
    refine (big_any a n c w hn).mono ?_
    rw [show decide (1048576 < n) = true by simp; omega]
    rintro e w ⟨rfl, rfl⟩
    go_wp2
    go_ret
    exact ⟨rfl, Below.refl _ _⟩

end Go.Proofs.Ytobkemdffhhlfaa
