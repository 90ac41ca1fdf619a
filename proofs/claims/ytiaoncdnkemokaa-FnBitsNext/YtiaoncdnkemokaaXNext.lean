/- The law FnBitsNext returns true, whatever it is handed. -/
import Derived.Test.YtiaoncdnkemokaaF7
import Derived.Test.YtiaoncdnkemokaaF6
import Derived.Test.YtiaoncdnkemokaaC2
import Derived.Test.YtiaoncdnkemokaaXFnBitsTurns
namespace Go.Proofs.Ytiaoncdnkemokaa
set_option linter.unusedVariables false
set_option linter.unusedSimpArgs false
open Go.RowKit

/-- What a draw of two words answers. -/
def DrawsTwo : Prop := ∀ (a : Option Addr) (c : Nat) (bs : List Nat) (w : World), RdB w a bs →
    Calls Try.prog 37 #[.slice a bs.length c] w fun e w' => ∃ a' c' W xs b' d' V ys, e = .returned (.tuple #[.agg #[.int .i64 W, .slice a' xs.length c'], .agg #[.int .i64 V, .slice b' ys.length d']]) ∧ -9223372036854775808 ≤ W ∧ W ≤ 9223372036854775807 ∧ -9223372036854775808 ≤ V ∧ V ≤ 9223372036854775807 ∧ Got w' w.heap.size a' xs ∧ Got w' w.heap.size b' ys ∧ Below w.heap.size w w'

set_option maxHeartbeats 8000000 in
set_option maxRecDepth 100000 in
theorem law_next (HDR : Hid DrawsTwo) (a : Option Addr) (c : Nat) (bs : List Nat) (w : World) (hr : RdB w a bs) (hl : bs.length ≤ 1048576) :
    Calls Try.prog 6 #[.slice a bs.length c] w fun e w' => e = .returned (.bool true) ∧ Below w.heap.size w w' := by
  go_enter Try.func6, Try.ntmps6
  go_wp2_with fail
  refine (big_any a bs.length c w (by omega)).mono ?_
  rw [show decide (1048576 < bs.length) = false by simp; omega]
  rintro e w ⟨rfl, rfl⟩
  go_wp2_with fail
  refine (HDR.out a c bs _ hr).mono ?_
  rintro e w1 ⟨a1, c1, W, xs, b1, d1, V, ys, rfl, hW1, hW2, hV1, hV2, hg, hh, B⟩
  have hx := hg.1.2.1
  have hl1 := hg.1.1
  have hy := hh.1.2.1
  have hl2 := hh.1.1
  go_wp2_with fail
  have b_a := (Blk.new w1 (Value.int IntKind.i64 W) (Value.slice a1 xs.length c1) 26).alloc (Obj.cells #[Value.int IntKind.i64 V, Value.slice b1 ys.length d1] 26)
  have b_b := Blk.new1 w1 (Obj.cells #[Value.int IntKind.i64 W, Value.slice a1 xs.length c1] 26) (Value.int IntKind.i64 V) (Value.slice b1 ys.length d1) 26
  have r_a : Rd ((w1.alloc (Obj.cells #[Value.int IntKind.i64 W, Value.slice a1 xs.length c1] 26)).alloc (Obj.cells #[Value.int IntKind.i64 V, Value.slice b1 ys.length d1] 26)) a1 xs := hg.1.later (Ba (Ba (Below.refl _ _) _) _)
  have r_b : Rd ((w1.alloc (Obj.cells #[Value.int IntKind.i64 W, Value.slice a1 xs.length c1] 26)).alloc (Obj.cells #[Value.int IntKind.i64 V, Value.slice b1 ys.length d1] 26)) b1 ys := hh.1.later (Ba (Ba (Below.refl _ _) _) _)
  replace B := Ba (Ba B (Obj.cells #[Value.int IntKind.i64 W, Value.slice a1 xs.length c1] 26)) (Obj.cells #[Value.int IntKind.i64 V, Value.slice b1 ys.length d1] 26)
  generalize (w1.alloc (Obj.cells #[Value.int IntKind.i64 W, Value.slice a1 xs.length c1] 26)).alloc (Obj.cells #[Value.int IntKind.i64 V, Value.slice b1 ys.length d1] 26) = u1 at *
  generalize w1.heap.size + 1 = β_b at *
  generalize w1.heap.size = β_a at *
  clear hg hh
  have hC1 : ∀ u : World, Rd u a1 xs → Rd u b1 ys → Calls Try.prog 38 #[.agg #[.int .i64 W, .slice a1 xs.length c1], .agg #[.int .i64 V, .slice b1 ys.length d1]] u fun e w' => e = .returned (.int .i64 (cmpI W xs V ys)) ∧ Below u.heap.size u w' := fun u h1 h2 => implCmp_any W a1 c1 xs V b1 d1 ys u h1 h2
  have hC2 : ∀ u : World, Rd u a1 xs → Rd u b1 ys → Calls Try.prog 39 #[.agg #[.int .i64 W, .slice a1 xs.length c1], .agg #[.int .i64 V, .slice b1 ys.length d1]] u fun e w' => e = .returned (.int .i64 (cmpI W xs V ys)) ∧ Below u.heap.size u w' := fun u h1 h2 => specCmp_any W a1 c1 xs V b1 d1 ys u h1 h2
  have hC3 : ∀ u : World, Rd u a1 xs → Rd u b1 ys → Calls Try.prog 38 #[.agg #[.int .i64 V, .slice b1 ys.length d1], .agg #[.int .i64 W, .slice a1 xs.length c1]] u fun e w' => e = .returned (.int .i64 (cmpI V ys W xs)) ∧ Below u.heap.size u w' := fun u h1 h2 => implCmp_any V b1 d1 ys W a1 c1 xs u h2 h1
  have hflip := cmpI_flip W xs V ys
  have hrange := cmpI_range W xs V ys
  generalize cmpI W xs V ys = q at *
  generalize cmpI V ys W xs = q' at *
  have HC2 : Hid _ := hC2
  have HC3 : Hid _ := hC3
  clear hC2 hC3
  refine (hC1 _ r_a r_b).mono ?_
  clear hC1
  rintro e w2 ⟨rfl, hb2⟩
  replace b_a := b_a.next hb2
  replace r_a := r_a.later hb2
  replace b_b := b_b.next hb2
  replace r_b := r_b.later hb2
  replace B := chain B hb2
  clear hb2
  obtain ⟨x_a, y_a⟩ := b_a.cells
  have l_a := b_a.lt
  obtain ⟨x_b, y_b⟩ := b_b.cells
  have l_b := b_b.lt
  have hq0 : (q != q) = false := by simp
  go_wp2_with fail
  refine (HC2.out _ r_a r_b).mono ?_
  rintro e w3 ⟨rfl, hb3⟩
  clear x_a y_a l_a
  clear x_b y_b l_b
  replace b_a := b_a.next hb3
  replace r_a := r_a.later hb3
  replace b_b := b_b.next hb3
  replace r_b := r_b.later hb3
  replace B := chain B hb3
  clear hb3 HC2
  obtain ⟨x_a, y_a⟩ := b_a.cells
  have l_a := b_a.lt
  obtain ⟨x_b, y_b⟩ := b_b.cells
  have l_b := b_b.lt
  by_cases h2 : q = -2
  · have h2b : (q != -2) = false := by simp [h2]
    have HQ2 : Hid (q = -2) := h2
    clear h2 hflip HC3
    go_wp2_with fail
    clear x_a y_a l_a
    clear x_b y_b l_b
    clear b_b r_b
    cases hok : rightB W xs with
    | false =>
      have E : nextR W xs = noR := by rw [nextR, if_neg (by simp [hok])]
      have hT := specNext_any W a1 c1 xs w3 r_a
      rw [E] at hT
      refine hT.mono ?_
      intro e w10 h10
      obtain ⟨a10, c10, rfl, hb10⟩ := h10.none
      clear hT h10
      replace b_a := b_a.next hb10
      replace r_a := r_a.later hb10
      replace B := chain B hb10
      obtain ⟨x_a, y_a⟩ := b_a.cells
      have l_a := b_a.lt
      go_wp2_with fail
      clear x_a y_a l_a
      replace b_a := b_a.alloc (Obj.cells #[Value.int IntKind.i64 0, Value.slice a10 0 c10] 26)
      replace r_a := r_a.later (Ba (Below.refl _ _) (Obj.cells #[Value.int IntKind.i64 0, Value.slice a10 0 c10] 26))
      replace B := Ba B (Obj.cells #[Value.int IntKind.i64 0, Value.slice a10 0 c10] 26)
      generalize w10.alloc (Obj.cells #[Value.int IntKind.i64 0, Value.slice a10 0 c10] 26) = w10' at *
      generalize w10.heap.size = β_w10 at *
      have hT := implNext_any W a1 c1 xs w10' r_a
      rw [E] at hT
      refine hT.mono ?_
      intro e w11 h11
      obtain ⟨a11, c11, rfl, hb11⟩ := h11.none
      clear hT h11
      replace b_a := b_a.next hb11
      replace r_a := r_a.later hb11
      replace B := chain B hb11
      obtain ⟨x_a, y_a⟩ := b_a.cells
      have l_a := b_a.lt
      go_wp2_with fail
      clear x_a y_a l_a
      replace b_a := b_a.alloc (Obj.cells #[Value.int IntKind.i64 0, Value.slice a11 0 c11] 26)
      replace r_a := r_a.later (Ba (Below.refl _ _) (Obj.cells #[Value.int IntKind.i64 0, Value.slice a11 0 c11] 26))
      replace B := Ba B (Obj.cells #[Value.int IntKind.i64 0, Value.slice a11 0 c11] 26)
      generalize w11.alloc (Obj.cells #[Value.int IntKind.i64 0, Value.slice a11 0 c11] 26) = w11' at *
      generalize w11.heap.size = β_w11 at *
      have hT := specOk_any W a1 c1 xs w11' r_a
      rw [hok] at hT
      refine hT.mono ?_
      rintro e w12 ⟨rfl, hb12⟩
      go_wp2
      go_ret
      exact ⟨rfl, chain B hb12⟩
    | true =>
      obtain ⟨hV1', hV2', hVl⟩ := right_W hok
      obtain ⟨P, rfl⟩ := Int.eq_ofNat_of_zero_le (show 0 ≤ W by omega)
      by_cases hf : fz xs P < P
      · obtain ⟨zs, E, Ec, zs1, zs2⟩ := next_yes hok hf
        have hT := specNext_any P a1 c1 xs w3 r_a
        rw [E] at hT
        refine hT.mono ?_
        intro e w10 h10
        obtain ⟨a10, c10, rfl, -, hb10⟩ := h10.yes (by omega) zs2
        clear hT h10
        replace b_a := b_a.next hb10
        replace r_a := r_a.later hb10
        replace B := chain B hb10
        obtain ⟨x_a, y_a⟩ := b_a.cells
        have l_a := b_a.lt
        go_wp2_with fail
        clear x_a y_a l_a
        replace b_a := b_a.alloc (Obj.cells #[Value.int IntKind.i64 P, Value.slice a10 zs.length c10] 26)
        replace r_a := r_a.later (Ba (Below.refl _ _) (Obj.cells #[Value.int IntKind.i64 P, Value.slice a10 zs.length c10] 26))
        replace B := Ba B (Obj.cells #[Value.int IntKind.i64 P, Value.slice a10 zs.length c10] 26)
        generalize w10.alloc (Obj.cells #[Value.int IntKind.i64 P, Value.slice a10 zs.length c10] 26) = w10' at *
        generalize w10.heap.size = β_w10 at *
        have hT := implNext_any P a1 c1 xs w10' r_a
        rw [E] at hT
        refine hT.mono ?_
        intro e w11 h11
        obtain ⟨a11, c11, rfl, g11, hb11⟩ := h11.yes (by omega) zs2
        clear hT h11
        replace b_a := b_a.next hb11
        replace r_a := r_a.later hb11
        replace B := chain B hb11
        obtain ⟨x_a, y_a⟩ := b_a.cells
        have l_a := b_a.lt
        go_wp2_with fail
        clear x_a y_a l_a
        have b_n := Blk.new w11 (Value.int IntKind.i64 P) (Value.slice a11 zs.length c11) 26
        have r_n : Rd (w11.alloc (Obj.cells #[Value.int IntKind.i64 P, Value.slice a11 zs.length c11] 26)) a11 zs := g11.1.later (Ba (Below.refl _ _) _)
        replace b_a := b_a.alloc (Obj.cells #[Value.int IntKind.i64 P, Value.slice a11 zs.length c11] 26)
        replace r_a := r_a.later (Ba (Below.refl _ _) (Obj.cells #[Value.int IntKind.i64 P, Value.slice a11 zs.length c11] 26))
        replace B := Ba B (Obj.cells #[Value.int IntKind.i64 P, Value.slice a11 zs.length c11] 26)
        generalize w11.alloc (Obj.cells #[Value.int IntKind.i64 P, Value.slice a11 zs.length c11] 26) = w11' at *
        generalize w11.heap.size = β_n at *
        clear g11
        have hT := specOk_any P a1 c1 xs w11' r_a
        rw [hok] at hT
        refine hT.mono ?_
        rintro e w12 ⟨rfl, hb12⟩
        clear hT
        replace b_a := b_a.next hb12
        replace r_a := r_a.later hb12
        replace b_n := b_n.next hb12
        replace r_n := r_n.later hb12
        replace B := chain B hb12
        obtain ⟨x_a, y_a⟩ := b_a.cells
        have l_a := b_a.lt
        obtain ⟨x_n, y_n⟩ := b_n.cells
        have l_n := b_n.lt
        go_wp2_with fail
        have hT := implCmp_any P a1 c1 xs P a11 c11 zs w12 r_a r_n
        rw [Ec] at hT
        refine hT.mono ?_
        rintro e w13 ⟨rfl, hb13⟩
        go_wp2
        go_ret
        exact ⟨ret_bool (by first | rfl | simp), chain B hb13⟩
      · obtain ⟨E, Eo⟩ := next_no hok hf
        have hT := specNext_any P a1 c1 xs w3 r_a
        rw [E] at hT
        refine hT.mono ?_
        intro e w10 h10
        obtain ⟨a10, c10, rfl, hb10⟩ := h10.none
        clear hT h10
        replace b_a := b_a.next hb10
        replace r_a := r_a.later hb10
        replace B := chain B hb10
        obtain ⟨x_a, y_a⟩ := b_a.cells
        have l_a := b_a.lt
        go_wp2_with fail
        clear x_a y_a l_a
        replace b_a := b_a.alloc (Obj.cells #[Value.int IntKind.i64 0, Value.slice a10 0 c10] 26)
        replace r_a := r_a.later (Ba (Below.refl _ _) (Obj.cells #[Value.int IntKind.i64 0, Value.slice a10 0 c10] 26))
        replace B := Ba B (Obj.cells #[Value.int IntKind.i64 0, Value.slice a10 0 c10] 26)
        generalize w10.alloc (Obj.cells #[Value.int IntKind.i64 0, Value.slice a10 0 c10] 26) = w10' at *
        generalize w10.heap.size = β_w10 at *
        have hT := implNext_any P a1 c1 xs w10' r_a
        rw [E] at hT
        refine hT.mono ?_
        intro e w11 h11
        obtain ⟨a11, c11, rfl, hb11⟩ := h11.none
        clear hT h11
        replace b_a := b_a.next hb11
        replace r_a := r_a.later hb11
        replace B := chain B hb11
        obtain ⟨x_a, y_a⟩ := b_a.cells
        have l_a := b_a.lt
        go_wp2_with fail
        clear x_a y_a l_a
        replace b_a := b_a.alloc (Obj.cells #[Value.int IntKind.i64 0, Value.slice a11 0 c11] 26)
        replace r_a := r_a.later (Ba (Below.refl _ _) (Obj.cells #[Value.int IntKind.i64 0, Value.slice a11 0 c11] 26))
        replace B := Ba B (Obj.cells #[Value.int IntKind.i64 0, Value.slice a11 0 c11] 26)
        generalize w11.alloc (Obj.cells #[Value.int IntKind.i64 0, Value.slice a11 0 c11] 26) = w11' at *
        generalize w11.heap.size = β_w11 at *
        have hT := specOk_any P a1 c1 xs w11' r_a
        rw [hok] at hT
        refine hT.mono ?_
        rintro e w12 ⟨rfl, hb12⟩
        clear hT
        replace b_a := b_a.next hb12
        replace r_a := r_a.later hb12
        replace B := chain B hb12
        obtain ⟨x_a, y_a⟩ := b_a.cells
        have l_a := b_a.lt
        go_wp2_with fail
        have hN : ∀ u : World, Rd u a1 xs → Calls Try.prog 31 #[.agg #[.int .i64 P, .slice a1 xs.length c1]] u fun e w' => e = .returned (.int .i64 (P : Int)) ∧ Below u.heap.size u w' := fun u hu => by
          have h := implOnes_any P a1 c1 xs u hu
          rwa [Eo] at h
        have HN : Hid _ := hN
        clear hN Eo E
        go_region_held3 (fun u => u.cell? ⟨β_a, 0, none⟩ = some (Value.int IntKind.i64 P) ∧ u.cell? ⟨β_a, 1, none⟩ = some (Value.slice a1 xs.length c1)) (first | (refine ⟨?_, ?_⟩ <;> assumption) | (simp [*]; done))
          ((go_at_call 31; refine (HN.out _ ?_).mono ?_; exact r_a; rintro e w13 ⟨rfl, hb13⟩; replace hb13 := undrewG hb13; have b13_a := b_a.next hb13; obtain ⟨x13_a, y13_a⟩ := b13_a.cells))
        go_wp2
        go_ret
        exact ⟨ret_bool (by first | rfl | simp), chain B hb13⟩
  · have h2b : (q != -2) = true := by simp [h2]
    have hq' := hflip h2
    subst hq'
    have hwq : IntKind.i64.wrap (-q) = -q := i64_small (by omega) (by omega)
    have hqn : ((-q) != (-q)) = false := by simp
    clear hflip
    go_wp2_with fail
    refine (HC3.out _ r_a r_b).mono ?_
    rintro e w4 ⟨rfl, hb4⟩
    clear HC3
    clear x_a y_a l_a
    clear x_b y_b l_b
    replace b_a := b_a.next hb4
    replace r_a := r_a.later hb4
    replace b_b := b_b.next hb4
    replace r_b := r_b.later hb4
    replace B := chain B hb4
    clear hb4
    obtain ⟨x_a, y_a⟩ := b_a.cells
    have l_a := b_a.lt
    obtain ⟨x_b, y_b⟩ := b_b.cells
    have l_b := b_b.lt
    go_wp2_with fail
    clear x_a y_a l_a
    clear x_b y_b l_b
    clear b_b r_b
    cases hok : rightB W xs with
    | false =>
      have E : nextR W xs = noR := by rw [nextR, if_neg (by simp [hok])]
      have hT := specNext_any W a1 c1 xs w4 r_a
      rw [E] at hT
      refine hT.mono ?_
      intro e w10 h10
      obtain ⟨a10, c10, rfl, hb10⟩ := h10.none
      clear hT h10
      replace b_a := b_a.next hb10
      replace r_a := r_a.later hb10
      replace B := chain B hb10
      obtain ⟨x_a, y_a⟩ := b_a.cells
      have l_a := b_a.lt
      go_wp2_with fail
      clear x_a y_a l_a
      replace b_a := b_a.alloc (Obj.cells #[Value.int IntKind.i64 0, Value.slice a10 0 c10] 26)
      replace r_a := r_a.later (Ba (Below.refl _ _) (Obj.cells #[Value.int IntKind.i64 0, Value.slice a10 0 c10] 26))
      replace B := Ba B (Obj.cells #[Value.int IntKind.i64 0, Value.slice a10 0 c10] 26)
      generalize w10.alloc (Obj.cells #[Value.int IntKind.i64 0, Value.slice a10 0 c10] 26) = w10' at *
      generalize w10.heap.size = β_w10 at *
      have hT := implNext_any W a1 c1 xs w10' r_a
      rw [E] at hT
      refine hT.mono ?_
      intro e w11 h11
      obtain ⟨a11, c11, rfl, hb11⟩ := h11.none
      clear hT h11
      replace b_a := b_a.next hb11
      replace r_a := r_a.later hb11
      replace B := chain B hb11
      obtain ⟨x_a, y_a⟩ := b_a.cells
      have l_a := b_a.lt
      go_wp2_with fail
      clear x_a y_a l_a
      replace b_a := b_a.alloc (Obj.cells #[Value.int IntKind.i64 0, Value.slice a11 0 c11] 26)
      replace r_a := r_a.later (Ba (Below.refl _ _) (Obj.cells #[Value.int IntKind.i64 0, Value.slice a11 0 c11] 26))
      replace B := Ba B (Obj.cells #[Value.int IntKind.i64 0, Value.slice a11 0 c11] 26)
      generalize w11.alloc (Obj.cells #[Value.int IntKind.i64 0, Value.slice a11 0 c11] 26) = w11' at *
      generalize w11.heap.size = β_w11 at *
      have hT := specOk_any W a1 c1 xs w11' r_a
      rw [hok] at hT
      refine hT.mono ?_
      rintro e w12 ⟨rfl, hb12⟩
      go_wp2
      go_ret
      exact ⟨rfl, chain B hb12⟩
    | true =>
      obtain ⟨hV1', hV2', hVl⟩ := right_W hok
      obtain ⟨P, rfl⟩ := Int.eq_ofNat_of_zero_le (show 0 ≤ W by omega)
      by_cases hf : fz xs P < P
      · obtain ⟨zs, E, Ec, zs1, zs2⟩ := next_yes hok hf
        have hT := specNext_any P a1 c1 xs w4 r_a
        rw [E] at hT
        refine hT.mono ?_
        intro e w10 h10
        obtain ⟨a10, c10, rfl, -, hb10⟩ := h10.yes (by omega) zs2
        clear hT h10
        replace b_a := b_a.next hb10
        replace r_a := r_a.later hb10
        replace B := chain B hb10
        obtain ⟨x_a, y_a⟩ := b_a.cells
        have l_a := b_a.lt
        go_wp2_with fail
        clear x_a y_a l_a
        replace b_a := b_a.alloc (Obj.cells #[Value.int IntKind.i64 P, Value.slice a10 zs.length c10] 26)
        replace r_a := r_a.later (Ba (Below.refl _ _) (Obj.cells #[Value.int IntKind.i64 P, Value.slice a10 zs.length c10] 26))
        replace B := Ba B (Obj.cells #[Value.int IntKind.i64 P, Value.slice a10 zs.length c10] 26)
        generalize w10.alloc (Obj.cells #[Value.int IntKind.i64 P, Value.slice a10 zs.length c10] 26) = w10' at *
        generalize w10.heap.size = β_w10 at *
        have hT := implNext_any P a1 c1 xs w10' r_a
        rw [E] at hT
        refine hT.mono ?_
        intro e w11 h11
        obtain ⟨a11, c11, rfl, g11, hb11⟩ := h11.yes (by omega) zs2
        clear hT h11
        replace b_a := b_a.next hb11
        replace r_a := r_a.later hb11
        replace B := chain B hb11
        obtain ⟨x_a, y_a⟩ := b_a.cells
        have l_a := b_a.lt
        go_wp2_with fail
        clear x_a y_a l_a
        have b_n := Blk.new w11 (Value.int IntKind.i64 P) (Value.slice a11 zs.length c11) 26
        have r_n : Rd (w11.alloc (Obj.cells #[Value.int IntKind.i64 P, Value.slice a11 zs.length c11] 26)) a11 zs := g11.1.later (Ba (Below.refl _ _) _)
        replace b_a := b_a.alloc (Obj.cells #[Value.int IntKind.i64 P, Value.slice a11 zs.length c11] 26)
        replace r_a := r_a.later (Ba (Below.refl _ _) (Obj.cells #[Value.int IntKind.i64 P, Value.slice a11 zs.length c11] 26))
        replace B := Ba B (Obj.cells #[Value.int IntKind.i64 P, Value.slice a11 zs.length c11] 26)
        generalize w11.alloc (Obj.cells #[Value.int IntKind.i64 P, Value.slice a11 zs.length c11] 26) = w11' at *
        generalize w11.heap.size = β_n at *
        clear g11
        have hT := specOk_any P a1 c1 xs w11' r_a
        rw [hok] at hT
        refine hT.mono ?_
        rintro e w12 ⟨rfl, hb12⟩
        clear hT
        replace b_a := b_a.next hb12
        replace r_a := r_a.later hb12
        replace b_n := b_n.next hb12
        replace r_n := r_n.later hb12
        replace B := chain B hb12
        obtain ⟨x_a, y_a⟩ := b_a.cells
        have l_a := b_a.lt
        obtain ⟨x_n, y_n⟩ := b_n.cells
        have l_n := b_n.lt
        go_wp2_with fail
        have hT := implCmp_any P a1 c1 xs P a11 c11 zs w12 r_a r_n
        rw [Ec] at hT
        refine hT.mono ?_
        rintro e w13 ⟨rfl, hb13⟩
        go_wp2
        go_ret
        exact ⟨ret_bool (by first | rfl | simp), chain B hb13⟩
      · obtain ⟨E, Eo⟩ := next_no hok hf
        have hT := specNext_any P a1 c1 xs w4 r_a
        rw [E] at hT
        refine hT.mono ?_
        intro e w10 h10
        obtain ⟨a10, c10, rfl, hb10⟩ := h10.none
        clear hT h10
        replace b_a := b_a.next hb10
        replace r_a := r_a.later hb10
        replace B := chain B hb10
        obtain ⟨x_a, y_a⟩ := b_a.cells
        have l_a := b_a.lt
        go_wp2_with fail
        clear x_a y_a l_a
        replace b_a := b_a.alloc (Obj.cells #[Value.int IntKind.i64 0, Value.slice a10 0 c10] 26)
        replace r_a := r_a.later (Ba (Below.refl _ _) (Obj.cells #[Value.int IntKind.i64 0, Value.slice a10 0 c10] 26))
        replace B := Ba B (Obj.cells #[Value.int IntKind.i64 0, Value.slice a10 0 c10] 26)
        generalize w10.alloc (Obj.cells #[Value.int IntKind.i64 0, Value.slice a10 0 c10] 26) = w10' at *
        generalize w10.heap.size = β_w10 at *
        have hT := implNext_any P a1 c1 xs w10' r_a
        rw [E] at hT
        refine hT.mono ?_
        intro e w11 h11
        obtain ⟨a11, c11, rfl, hb11⟩ := h11.none
        clear hT h11
        replace b_a := b_a.next hb11
        replace r_a := r_a.later hb11
        replace B := chain B hb11
        obtain ⟨x_a, y_a⟩ := b_a.cells
        have l_a := b_a.lt
        go_wp2_with fail
        clear x_a y_a l_a
        replace b_a := b_a.alloc (Obj.cells #[Value.int IntKind.i64 0, Value.slice a11 0 c11] 26)
        replace r_a := r_a.later (Ba (Below.refl _ _) (Obj.cells #[Value.int IntKind.i64 0, Value.slice a11 0 c11] 26))
        replace B := Ba B (Obj.cells #[Value.int IntKind.i64 0, Value.slice a11 0 c11] 26)
        generalize w11.alloc (Obj.cells #[Value.int IntKind.i64 0, Value.slice a11 0 c11] 26) = w11' at *
        generalize w11.heap.size = β_w11 at *
        have hT := specOk_any P a1 c1 xs w11' r_a
        rw [hok] at hT
        refine hT.mono ?_
        rintro e w12 ⟨rfl, hb12⟩
        clear hT
        replace b_a := b_a.next hb12
        replace r_a := r_a.later hb12
        replace B := chain B hb12
        obtain ⟨x_a, y_a⟩ := b_a.cells
        have l_a := b_a.lt
        go_wp2_with fail
        have hN : ∀ u : World, Rd u a1 xs → Calls Try.prog 31 #[.agg #[.int .i64 P, .slice a1 xs.length c1]] u fun e w' => e = .returned (.int .i64 (P : Int)) ∧ Below u.heap.size u w' := fun u hu => by
          have h := implOnes_any P a1 c1 xs u hu
          rwa [Eo] at h
        have HN : Hid _ := hN
        clear hN Eo E
        go_region_held3 (fun u => u.cell? ⟨β_a, 0, none⟩ = some (Value.int IntKind.i64 P) ∧ u.cell? ⟨β_a, 1, none⟩ = some (Value.slice a1 xs.length c1)) (first | (refine ⟨?_, ?_⟩ <;> assumption) | (simp [*]; done))
          ((go_at_call 31; refine (HN.out _ ?_).mono ?_; exact r_a; rintro e w13 ⟨rfl, hb13⟩; replace hb13 := undrewG hb13; have b13_a := b_a.next hb13; obtain ⟨x13_a, y13_a⟩ := b13_a.cells))
        go_wp2
        go_ret
        exact ⟨ret_bool (by first | rfl | simp), chain B hb13⟩

end Go.Proofs.Ytiaoncdnkemokaa
