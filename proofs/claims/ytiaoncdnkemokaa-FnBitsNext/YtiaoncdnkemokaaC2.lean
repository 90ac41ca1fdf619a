/- What cmp.Compare on words and the two CompareBits answer. -/
import Derived.Test.YtiaoncdnkemokaaC1
import Derived.Test.YtiaoncdnkemokaaR
import Derived.Test.YtiaoncdnkemokaaU
import Derived.Deep.RegionHeld3
namespace Go.Proofs.Ytiaoncdnkemokaa
set_option linter.unusedVariables false
set_option linter.unusedSimpArgs false
open Go.RowKit

def cmpN (x y : Nat) : Int := if x < y then -1 else if y < x then 1 else 0

theorem cmpWord_any (x y : Nat) (w : World) (hx : x < 18446744073709551616) (hy : y < 18446744073709551616) :
    Calls Try.prog 82 #[.int .u64 x, .int .u64 y] w fun e w' => e = .returned (.int .i64 (cmpN x y)) ∧ w' = w := by
  unfold cmpN
  rcases Nat.lt_trichotomy x y with h | h | h
  · rw [if_pos h]
    go_enter Try.func82, Try.ntmps82
    go_wp2
    go_ret
    exact ⟨rfl, rfl⟩
  · subst h
    rw [if_neg (by omega), if_neg (by omega)]
    go_enter Try.func82, Try.ntmps82
    go_wp2
    go_ret
    exact ⟨rfl, rfl⟩
  · rw [if_neg (by omega), if_pos h]
    go_enter Try.func82, Try.ntmps82
    go_wp2
    go_ret
    exact ⟨rfl, rfl⟩

set_option maxHeartbeats 2000000 in
set_option maxRecDepth 100000 in
theorem specCmp_any (W : Int) (a : Option Addr) (c : Nat) (xs : List Nat) (V : Int) (b : Option Addr) (d : Nat) (ys : List Nat) (w : World) (hr : Rd w a xs) (hs : Rd w b ys) :
    Calls Try.prog 39 #[.agg #[.int .i64 W, .slice a xs.length c], .agg #[.int .i64 V, .slice b ys.length d]] w fun e w' => e = .returned (.int .i64 (cmpI W xs V ys)) ∧ Below w.heap.size w w' := by
  have h2 : Below w.heap.size w ((w.alloc (Obj.cells #[Value.int IntKind.i64 W, Value.slice a xs.length c] 26)).alloc (Obj.cells #[Value.int IntKind.i64 V, Value.slice b ys.length d] 26)) := ((Below.refl _ _).alloc (Nat.le_refl _) _).alloc (by simp) _
  have hr' := hr.later h2
  have hs' := hs.later h2
  have bB0 := Blk.new1 w (Obj.cells #[Value.int IntKind.i64 W, Value.slice a xs.length c] 26) (Value.int IntKind.i64 V) (Value.slice b ys.length d) 26
  have bA0 := (Blk.new w (Value.int IntKind.i64 W) (Value.slice a xs.length c) 26).alloc (Obj.cells #[Value.int IntKind.i64 V, Value.slice b ys.length d] 26)
  have hOk : ∀ (W : Int) (a : Option Addr) (c : Nat) (xs : List Nat) (u : World) (r : Bool), rightB W xs = r → Rd u a xs → Calls Try.prog 21 #[.agg #[.int .i64 W, .slice a xs.length c]] u fun e w' => e = .returned (.bool r) ∧ Below u.heap.size u w' := fun W a c xs u r h hu => by
    have := specOk_any W a c xs u hu
    rwa [h] at this
  have HOK : Hid _ := hOk
  clear hOk
  cases hoa : rightB W xs with
  | false =>
    have hc : cmpI W xs V ys = -2 := by unfold cmpI; simp [hoa]
    rw [hc]
    go_enter Try.func39, Try.ntmps39
    go_wp2_with fail
    refine (HOK.out _ _ _ _ _ _ hoa hr').mono ?_
    rintro e w3 ⟨rfl, hb3⟩
    have bA3 := bA0.next hb3
    have bB3 := bB0.next hb3
    obtain ⟨k0, k1⟩ := bA3.cells
    obtain ⟨l0, l1⟩ := bB3.cells
    have B3 := h2.trans (hb3.mono (by simp; omega))
    go_wp2
    go_ret
    exact ⟨rfl, B3⟩
  | true =>
    obtain ⟨c0, c1⟩ := bA0.cells
    obtain ⟨d0, d1⟩ := bB0.cells
    cases hob : rightB V ys with
    | false =>
      have hc : cmpI W xs V ys = -2 := by unfold cmpI; simp [hob]
      rw [hc]
      go_enter Try.func39, Try.ntmps39
      go_wp2_with fail
      refine (HOK.out _ _ _ _ _ _ hoa hr').mono ?_
      rintro e w3 ⟨rfl, hb3⟩
      have bA3 := bA0.next hb3
      have bB3 := bB0.next hb3
      obtain ⟨k0, k1⟩ := bA3.cells
      obtain ⟨l0, l1⟩ := bB3.cells
      have B3 := h2.trans (hb3.mono (by simp; omega))
      go_wp2_with fail
      refine (HOK.out _ _ _ _ _ _ hob (hs'.later hb3)).mono ?_
      rintro e w4 ⟨rfl, hb4⟩
      have B4 := chain B3 hb4
      have bA4 := bA3.next hb4
      have bB4 := bB3.next hb4
      clear hb3 hb4 B3 bA3 bB3 k0 k1 l0 l1 c0 c1 d0 d1 bA0 bB0 h2 hr' hs' HOK
      obtain ⟨k0, k1⟩ := bA4.cells
      obtain ⟨l0, l1⟩ := bB4.cells
      go_wp2
      go_ret
      exact ⟨rfl, B4⟩
    | true =>
      obtain ⟨hW1, hW2, hWl⟩ := right_W hoa
      obtain ⟨hV1, hV2, hVl⟩ := right_W hob
      have hxx := hr.2.1
      have hyy := hs.2.1
      by_cases hWV : W = V
      · subst hWV
        have hc : cmpI W xs W ys = cmpB xs ys W.toNat := by unfold cmpI; simp [hoa, hob]
        rw [hc]
        clear hc
        obtain ⟨V, rfl⟩ := Int.eq_ofNat_of_zero_le (show 0 ≤ W by omega)
        rw [Int.toNat_natCast]
        have hlx : V ≤ 64 * xs.length := by omega
        have hly : V ≤ 64 * ys.length := by omega
        have HXY : Hid (xs.length = ys.length) := by show _ = _; omega
        have hx64 : xs.length ≤ 64 := by omega
        have HE : Hid (cmpB xs ys (64 * xs.length) = cmpB xs ys V) := cmpB_right hoa hob
        clear hWl hVl
        go_enter Try.func39, Try.ntmps39
        go_wp2_with fail
        refine (HOK.out _ _ _ _ _ _ hoa hr').mono ?_
        rintro e w3 ⟨rfl, hb3⟩
        have bA3 := bA0.next hb3
        have bB3 := bB0.next hb3
        obtain ⟨k0, k1⟩ := bA3.cells
        obtain ⟨l0, l1⟩ := bB3.cells
        have B3 := h2.trans (hb3.mono (by simp; omega))
        go_wp2_with fail
        refine (HOK.out _ _ _ _ _ _ hob (hs'.later hb3)).mono ?_
        rintro e w4 ⟨rfl, hb4⟩
        have B4 := chain B3 hb4
        have bA4 := bA3.next hb4
        have bB4 := bB3.next hb4
        clear hb3 hb4 B3 bA3 bB3 k0 k1 l0 l1 c0 c1 d0 d1 bA0 bB0 h2 hr' hs' HOK
        obtain ⟨k0, k1⟩ := bA4.cells
        obtain ⟨l0, l1⟩ := bB4.cells
        go_wp2_with fail
        go_loopw [5] (fun i wr => ∃ k : Nat, k ≤ V ∧ i = .int .i64 ((k : Int) - 1) ∧ cmpB xs ys k = cmpB xs ys V ∧ Blk wr w.heap.size (Value.int IntKind.i64 V) (Value.slice a xs.length c) 26 ∧ Blk wr (w.heap.size + 1) (Value.int IntKind.i64 V) (Value.slice b ys.length d) 26 ∧ Below w.heap.size w wr) (fun i _ => ((intOf i) + 1).toNat)
        case atStart => exact ⟨V, Nat.le_refl _, rfl, rfl, bA4, bB4, B4⟩
        case round =>
          obtain ⟨k, hk, rfl, heq, bA, bB, B⟩ := hrel
          have HEQ : Hid _ := heq
          clear heq HE bA4 bB4 B4 k0 k1 l0 l1
          obtain ⟨k0, k1⟩ := bA.cells
          obtain ⟨l0, l1⟩ := bB.cells
          cases k with
          | zero =>
            go_wp2
            go_ret
            exact ⟨ret_int (by rw [← HEQ.out]; rfl), B⟩
          | succ j =>
            rw [show (((j + 1 : Nat) : Int) - 1) = (j : Int) by omega]
            have HC : Hid (cmpB xs ys (j + 1) = if (tb xs j).toNat < (tb ys j).toNat then -1 else if (tb ys j).toNat < (tb xs j).toNat then 1 else cmpB xs ys j) := rfl
            have t1 : (tb xs j).toNat ≤ 1 := by cases tb xs j <;> decide
            have t2 : (tb ys j).toNat ≤ 1 := by cases tb ys j <;> decide
            go_wp2_with fail
            refine (l1Bit_any _ _ _ _ _ _ (hr.later B) (by omega)).mono ?_
            rintro e w5 ⟨rfl, hb5⟩
            have B5 := chain B hb5
            have bA5 := bA.next hb5
            have bB5 := bB.next hb5
            clear B bA bB hb5 k0 k1 l0 l1
            obtain ⟨k0, k1⟩ := bA5.cells
            obtain ⟨l0, l1⟩ := bB5.cells
            go_wp2_with fail
            refine (l1Bit_any _ _ _ _ _ _ (hs.later B5) (by omega)).mono ?_
            rintro e w6 ⟨rfl, hb6⟩
            have B6 := chain B5 hb6
            have bA6 := bA5.next hb6
            have bB6 := bB5.next hb6
            clear B5 bA5 bB5 hb6 k0 k1 l0 l1
            generalize (tb xs j).toNat = x at *
            generalize (tb ys j).toNat = y at *
            by_cases h1 : x < y
            · have HR : Hid (-1 = cmpB xs ys V) := by show _ = _; rw [← HEQ.out, HC.out, if_pos h1]
              clear HC HEQ
              go_wp2
              go_ret
              exact ⟨ret_int HR.out, B6⟩
            · by_cases h2 : y < x
              · have HR : Hid (1 = cmpB xs ys V) := by show _ = _; rw [← HEQ.out, HC.out, if_neg h1, if_pos h2]
                clear HC HEQ
                go_wp2
                go_ret
                exact ⟨ret_int HR.out, B6⟩
              · have HR : Hid (cmpB xs ys j = cmpB xs ys V) := by show _ = _; rw [← HEQ.out, HC.out, if_neg h1, if_neg h2]
                clear HC HEQ
                go_wp2
                go_roundw
                case rel => exact ⟨j, by omega, by go_num, HR.out, bA6, bB6, B6⟩
                case measure => simp [intOf]
      · have hc : cmpI W xs V ys = -2 := by unfold cmpI; simp [hWV]
        rw [hc]
        clear hc
        go_enter Try.func39, Try.ntmps39
        go_wp2_with fail
        refine (HOK.out _ _ _ _ _ _ hoa hr').mono ?_
        rintro e w3 ⟨rfl, hb3⟩
        have bA3 := bA0.next hb3
        have bB3 := bB0.next hb3
        obtain ⟨k0, k1⟩ := bA3.cells
        obtain ⟨l0, l1⟩ := bB3.cells
        have B3 := h2.trans (hb3.mono (by simp; omega))
        go_wp2_with fail
        refine (HOK.out _ _ _ _ _ _ hob (hs'.later hb3)).mono ?_
        rintro e w4 ⟨rfl, hb4⟩
        have B4 := chain B3 hb4
        have bA4 := bA3.next hb4
        have bB4 := bB3.next hb4
        clear hb3 hb4 B3 bA3 bB3 k0 k1 l0 l1 c0 c1 d0 d1 bA0 bB0 h2 hr' hs' HOK
        obtain ⟨k0, k1⟩ := bA4.cells
        obtain ⟨l0, l1⟩ := bB4.cells
        go_wp2
        go_ret
        exact ⟨rfl, B4⟩

set_option maxHeartbeats 2000000 in
set_option maxRecDepth 100000 in
theorem implCmp_any (W : Int) (a : Option Addr) (c : Nat) (xs : List Nat) (V : Int) (b : Option Addr) (d : Nat) (ys : List Nat) (w : World) (hr : Rd w a xs) (hs : Rd w b ys) :
    Calls Try.prog 38 #[.agg #[.int .i64 W, .slice a xs.length c], .agg #[.int .i64 V, .slice b ys.length d]] w fun e w' => e = .returned (.int .i64 (cmpI W xs V ys)) ∧ Below w.heap.size w w' := by
  have h2 : Below w.heap.size w ((w.alloc (Obj.cells #[Value.int IntKind.i64 W, Value.slice a xs.length c] 26)).alloc (Obj.cells #[Value.int IntKind.i64 V, Value.slice b ys.length d] 26)) := ((Below.refl _ _).alloc (Nat.le_refl _) _).alloc (by simp) _
  have hr' := hr.later h2
  have hs' := hs.later h2
  have bB0 := Blk.new1 w (Obj.cells #[Value.int IntKind.i64 W, Value.slice a xs.length c] 26) (Value.int IntKind.i64 V) (Value.slice b ys.length d) 26
  have bA0 := (Blk.new w (Value.int IntKind.i64 W) (Value.slice a xs.length c) 26).alloc (Obj.cells #[Value.int IntKind.i64 V, Value.slice b ys.length d] 26)
  have hOk : ∀ (W : Int) (a : Option Addr) (c : Nat) (xs : List Nat) (u : World) (r : Bool), rightB W xs = r → Rd u a xs → Calls Try.prog 28 #[.agg #[.int .i64 W, .slice a xs.length c]] u fun e w' => e = .returned (.bool r) ∧ Below u.heap.size u w' := fun W a c xs u r h hu => by
    have := implOk_any W a c xs u hu
    rwa [h] at this
  have HOK : Hid _ := hOk
  clear hOk
  cases hoa : rightB W xs with
  | false =>
    have hc : cmpI W xs V ys = -2 := by unfold cmpI; simp [hoa]
    rw [hc]
    go_enter Try.func38, Try.ntmps38
    go_wp2_with fail
    refine (HOK.out _ _ _ _ _ _ hoa hr').mono ?_
    rintro e w3 ⟨rfl, hb3⟩
    have bA3 := bA0.next hb3
    have bB3 := bB0.next hb3
    obtain ⟨k0, k1⟩ := bA3.cells
    obtain ⟨l0, l1⟩ := bB3.cells
    have B3 := h2.trans (hb3.mono (by simp; omega))
    go_wp2
    go_ret
    exact ⟨rfl, B3⟩
  | true =>
    obtain ⟨c0, c1⟩ := bA0.cells
    obtain ⟨d0, d1⟩ := bB0.cells
    cases hob : rightB V ys with
    | false =>
      have hc : cmpI W xs V ys = -2 := by unfold cmpI; simp [hob]
      rw [hc]
      go_enter Try.func38, Try.ntmps38
      go_wp2_with fail
      refine (HOK.out _ _ _ _ _ _ hoa hr').mono ?_
      rintro e w3 ⟨rfl, hb3⟩
      have bA3 := bA0.next hb3
      have bB3 := bB0.next hb3
      obtain ⟨k0, k1⟩ := bA3.cells
      obtain ⟨l0, l1⟩ := bB3.cells
      have B3 := h2.trans (hb3.mono (by simp; omega))
      go_wp2_with fail
      refine (HOK.out _ _ _ _ _ _ hob (hs'.later hb3)).mono ?_
      rintro e w4 ⟨rfl, hb4⟩
      have B4 := chain B3 hb4
      have bA4 := bA3.next hb4
      have bB4 := bB3.next hb4
      clear hb3 hb4 B3 bA3 bB3 k0 k1 l0 l1 c0 c1 d0 d1 bA0 bB0 h2 hr' hs' HOK
      obtain ⟨k0, k1⟩ := bA4.cells
      obtain ⟨l0, l1⟩ := bB4.cells
      go_wp2
      go_ret
      exact ⟨rfl, B4⟩
    | true =>
      obtain ⟨hW1, hW2, hWl⟩ := right_W hoa
      obtain ⟨hV1, hV2, hVl⟩ := right_W hob
      have hxx := hr.2.1
      have hyy := hs.2.1
      by_cases hWV : W = V
      · subst hWV
        have hc : cmpI W xs W ys = cmpB xs ys W.toNat := by unfold cmpI; simp [hoa, hob]
        rw [hc]
        clear hc
        obtain ⟨V, rfl⟩ := Int.eq_ofNat_of_zero_le (show 0 ≤ W by omega)
        rw [Int.toNat_natCast]
        have hlx : V ≤ 64 * xs.length := by omega
        have hly : V ≤ 64 * ys.length := by omega
        have HXY : Hid (xs.length = ys.length) := by show _ = _; omega
        have hx64 : xs.length ≤ 64 := by omega
        have HE : Hid (cmpB xs ys (64 * xs.length) = cmpB xs ys V) := cmpB_right hoa hob
        clear hWl hVl
        go_enter Try.func38, Try.ntmps38
        go_wp2_with fail
        refine (HOK.out _ _ _ _ _ _ hoa hr').mono ?_
        rintro e w3 ⟨rfl, hb3⟩
        have bA3 := bA0.next hb3
        have bB3 := bB0.next hb3
        obtain ⟨k0, k1⟩ := bA3.cells
        obtain ⟨l0, l1⟩ := bB3.cells
        have B3 := h2.trans (hb3.mono (by simp; omega))
        go_wp2_with fail
        refine (HOK.out _ _ _ _ _ _ hob (hs'.later hb3)).mono ?_
        rintro e w4 ⟨rfl, hb4⟩
        have B4 := chain B3 hb4
        have bA4 := bA3.next hb4
        have bB4 := bB3.next hb4
        clear hb3 hb4 B3 bA3 bB3 k0 k1 l0 l1 c0 c1 d0 d1 bA0 bB0 h2 hr' hs' HOK
        obtain ⟨k0, k1⟩ := bA4.cells
        obtain ⟨l0, l1⟩ := bB4.cells
        have hki : ∀ k : Nat, k < xs.length → k < ys.length := fun k h => by have := HXY.out; omega
        have HKI : Hid _ := hki
        clear hki
        go_wp2_with fail
        go_loopw [5] (fun i wr => ∃ k : Nat, k ≤ xs.length ∧ i = .int .i64 ((k : Int) - 1) ∧ cmpB xs ys (64 * k) = cmpB xs ys V ∧ Blk wr w.heap.size (Value.int IntKind.i64 V) (Value.slice a xs.length c) 26 ∧ Blk wr (w.heap.size + 1) (Value.int IntKind.i64 V) (Value.slice b ys.length d) 26 ∧ Below w.heap.size w wr) (fun i _ => ((intOf i) + 1).toNat)
        case atStart => exact ⟨xs.length, Nat.le_refl _, rfl, HE.out, bA4, bB4, B4⟩
        case round =>
          obtain ⟨k, hk, rfl, heq, bA, bB, B⟩ := hrel
          have HEQ : Hid _ := heq
          have hra := hr.later B
          have hrb := hs.later B
          clear heq HE bA4 bB4 B4 k0 k1 l0 l1
          obtain ⟨k0, k1⟩ := bA.cells
          obtain ⟨l0, l1⟩ := bB.cells
          cases k with
          | zero =>
            go_wp2
            go_ret
            exact ⟨ret_int (by rw [← HEQ.out]; rfl), B⟩
          | succ j =>
            rw [show (((j + 1 : Nat) : Int) - 1) = (j : Int) by omega]
            have HC : Hid _ := cmpB_step hxx hyy j
            have hjx : j < xs.length := by omega
            have hjy := HKI.out j hjx
            obtain ⟨-, -, hn | ⟨g, o, rfl, hc⟩⟩ := hra
            · subst hn; simp at hjx
            obtain ⟨-, -, hn | ⟨g', o', rfl, hc'⟩⟩ := hrb
            · subst hn; simp at hjy
            have hx1 := hc j hjx
            have hy1 := hc' j hjy
            have hx2 := getD_lt hxx j
            have hy2 := getD_lt hyy j
            have hjx' : (j : Int) < (xs.length : Int) := by omega
            have hjy' : (j : Int) < (ys.length : Int) := by omega
            clear hc hc'
            generalize xs.getD j 0 = x at *
            generalize ys.getD j 0 = y at *
            by_cases h1 : x < y
            · have HR : Hid (-1 = cmpB xs ys V) := by show _ = _; rw [← HEQ.out, HC.out, if_pos h1]
              have HX : Hid (cmpN x y = -1) := by show _ = _; unfold cmpN; rw [if_pos h1]
              have hcall := fun u => cmpWord_any x y u hx2 hy2
              rw [HX.out] at hcall
              have HCALL : Hid _ := hcall
              clear HC HEQ hcall
              go_wp2_with fail
              first | (go_region_with (go_at_call 82; refine (HCALL.out _).mono ?_; rintro e w' ⟨rfl, rfl⟩)) | fail
              all_goals (go_wp2; go_ret; exact ⟨ret_int HR.out, B.drew⟩)
            · by_cases h2 : y < x
              · have HR : Hid (1 = cmpB xs ys V) := by show _ = _; rw [← HEQ.out, HC.out, if_neg h1, if_pos h2]
                have HX : Hid (cmpN x y = 1) := by show _ = _; unfold cmpN; rw [if_neg h1, if_pos h2]
                have hcall := fun u => cmpWord_any x y u hx2 hy2
                rw [HX.out] at hcall
                have HCALL : Hid _ := hcall
                clear HC HEQ hcall
                go_wp2_with fail
                first | (go_region_with (go_at_call 82; refine (HCALL.out _).mono ?_; rintro e w' ⟨rfl, rfl⟩)) | fail
                all_goals (go_wp2; go_ret; exact ⟨ret_int HR.out, B.drew⟩)
              · have HR : Hid (cmpB xs ys (64 * j) = cmpB xs ys V) := by show _ = _; rw [← HEQ.out, HC.out, if_neg h1, if_neg h2]
                have HX : Hid (cmpN x y = 0) := by show _ = _; unfold cmpN; rw [if_neg h1, if_neg h2]
                have hcall := fun u => cmpWord_any x y u hx2 hy2
                rw [HX.out] at hcall
                have HCALL : Hid _ := hcall
                clear HC HEQ hcall
                go_wp2_with fail
                first | (go_region_with (go_at_call 82; refine (HCALL.out _).mono ?_; rintro e w' ⟨rfl, rfl⟩)) | fail
                all_goals (go_wp2; exact ⟨⟨j, by omega, rfl, HR.out, bA, bB, B.drew⟩, by simp [intOf]⟩)
      · have hc : cmpI W xs V ys = -2 := by unfold cmpI; simp [hWV]
        rw [hc]
        clear hc
        go_enter Try.func38, Try.ntmps38
        go_wp2_with fail
        refine (HOK.out _ _ _ _ _ _ hoa hr').mono ?_
        rintro e w3 ⟨rfl, hb3⟩
        have bA3 := bA0.next hb3
        have bB3 := bB0.next hb3
        obtain ⟨k0, k1⟩ := bA3.cells
        obtain ⟨l0, l1⟩ := bB3.cells
        have B3 := h2.trans (hb3.mono (by simp; omega))
        go_wp2_with fail
        refine (HOK.out _ _ _ _ _ _ hob (hs'.later hb3)).mono ?_
        rintro e w4 ⟨rfl, hb4⟩
        have B4 := chain B3 hb4
        have bA4 := bA3.next hb4
        have bB4 := bB3.next hb4
        clear hb3 hb4 B3 bA3 bB3 k0 k1 l0 l1 c0 c1 d0 d1 bA0 bB0 h2 hr' hs' HOK
        obtain ⟨k0, k1⟩ := bA4.cells
        obtain ⟨l0, l1⟩ := bB4.cells
        go_wp2
        go_ret
        exact ⟨rfl, B4⟩

end Go.Proofs.Ytiaoncdnkemokaa
