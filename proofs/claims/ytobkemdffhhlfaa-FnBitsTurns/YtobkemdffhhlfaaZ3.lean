/- What math/bits.OnesCount64 and the two CountOnes answer. -/
import Derived.Test.YtobkemdffhhlfaaZ2
namespace Go.Proofs.Ytobkemdffhhlfaa
set_option linter.unusedVariables false
set_option linter.unusedSimpArgs false
open Go.RowKit

def z1 (x : Int) : Int := IntKind.u64.wrap (bits BinOp.and IntKind.u64 (x / 2) 6148914691236517205 + bits BinOp.and IntKind.u64 x 6148914691236517205)
def z2 (x : Int) : Int := IntKind.u64.wrap (bits BinOp.and IntKind.u64 (x / 4) 3689348814741910323 + bits BinOp.and IntKind.u64 x 3689348814741910323)
def z3 (x : Int) : Int := bits BinOp.and IntKind.u64 (IntKind.u64.wrap (x / 16 + x)) 1085102592571150095
def z4 (x : Int) : Int := IntKind.u64.wrap (x + x / 256)
def z5 (x : Int) : Int := IntKind.u64.wrap (x + x / 65536)
def z6 (x : Int) : Int := IntKind.u64.wrap (x + x / 4294967296)

theorem and_i64 (a b : Nat) (ha : a < 9223372036854775808) (hb : b < 9223372036854775808) : bits BinOp.and IntKind.i64 (a : Int) (b : Int) = ((a &&& b : Nat) : Int) := by
  have hx : a &&& b < 2 ^ 63 := Nat.and_lt_two_pow _ (by omega)
  have h1 : (BitVec.ofInt 64 (a : Int)).toNat = a := by
    rw [BitVec.ofInt_natCast, BitVec.toNat_ofNat]; exact Nat.mod_eq_of_lt (by omega)
  have h2 : (BitVec.ofInt 64 (b : Int)).toNat = b := by
    rw [BitVec.ofInt_natCast, BitVec.toNat_ofNat]; exact Nat.mod_eq_of_lt (by omega)
  show IntKind.i64.wrap ((BitVec.ofInt 64 (a : Int) &&& BitVec.ofInt 64 (b : Int)).toNat : Int) = _
  rw [BitVec.toNat_and, h1, h2, IntKind.wrap_i64]
  omega

theorem wrapN (n : Nat) (h : n < 18446744073709551616) : IntKind.u64.wrap (n : Int) = (n : Int) := by rw [IntKind.wrap_u64]; omega

set_option maxHeartbeats 1000000 in
set_option maxRecDepth 100000 in
theorem ones64_int (x : Int) (w : World) (h0 : 0 ≤ x) (h1 : x ≤ 18446744073709551615) :
    Calls Try.prog 77 #[.int .u64 x] w fun e w' => e = .returned (.int .i64 (bits BinOp.and IntKind.i64 (wrap64 (z6 (z5 (z4 (z3 (z2 (z1 x))))))) 127)) ∧ w' = w := by
  go_enter Try.func77, Try.ntmps77
  go_wp2
  go_ret
  exact ⟨rfl, rfl⟩

set_option maxRecDepth 100000 in
theorem popZ (x : Nat) (hx : x < 18446744073709551616) : bits BinOp.and IntKind.i64 (wrap64 (z6 (z5 (z4 (z3 (z2 (z1 (x : Int)))))))) 127 = ((pcnt x 64 : Nat) : Int) := by
  obtain ⟨y1, y2, y3, e1, b1, e2, b2, b2', e3, b3, ep⟩ := pop_ok x hx
  have k1 : z1 (x : Int) = (y1 : Int) := by
    unfold z1
    rw [show ((x : Int) / 2) = ((x / 2 : Nat) : Int) by omega, show (6148914691236517205 : Int) = ((6148914691236517205 : Nat) : Int) by rfl, bits_and_u64_nat _ _ (by omega) (by decide), bits_and_u64_nat _ _ hx (by decide), ← Int.natCast_add, ← e1, wrapN _ b1]
  have k2 : z2 (y1 : Int) = (y2 : Int) := by
    unfold z2
    rw [show ((y1 : Int) / 4) = ((y1 / 4 : Nat) : Int) by omega, show (3689348814741910323 : Int) = ((3689348814741910323 : Nat) : Int) by rfl, bits_and_u64_nat _ _ (by omega) (by decide), bits_and_u64_nat _ _ b1 (by decide), ← Int.natCast_add, ← e2, wrapN _ b2]
  have k3 : z3 (y2 : Int) = (y3 : Int) := by
    unfold z3
    rw [show ((y2 : Int) / 16 + (y2 : Int)) = ((y2 / 16 + y2 : Nat) : Int) by omega, wrapN _ b2', show (1085102592571150095 : Int) = ((1085102592571150095 : Nat) : Int) by rfl, bits_and_u64_nat _ _ b2' (by decide), ← e3]
  rw [k1, k2, k3]
  clear k1 k2 k3 e1 e2 e3 b1 b2 b2'
  have k4 : z4 (y3 : Int) = ((y3 + y3 / 256 : Nat) : Int) := by
    unfold z4
    rw [show ((y3 : Int) + (y3 : Int) / 256) = ((y3 + y3 / 256 : Nat) : Int) by omega, wrapN _ (by omega)]
  rw [k4]
  have c4 : y3 + y3 / 256 ≤ 600000000000000000 := by omega
  generalize y3 + y3 / 256 = y4 at *
  clear k4 b3
  have k5 : z5 (y4 : Int) = ((y4 + y4 / 65536 : Nat) : Int) := by
    unfold z5
    rw [show ((y4 : Int) + (y4 : Int) / 65536) = ((y4 + y4 / 65536 : Nat) : Int) by omega, wrapN _ (by omega)]
  rw [k5]
  have c5 : y4 + y4 / 65536 ≤ 700000000000000000 := by omega
  generalize y4 + y4 / 65536 = y5 at *
  clear k5 c4
  have k6 : z6 (y5 : Int) = ((y5 + y5 / 4294967296 : Nat) : Int) := by
    unfold z6
    rw [show ((y5 : Int) + (y5 : Int) / 4294967296) = ((y5 + y5 / 4294967296 : Nat) : Int) by omega, wrapN _ (by omega)]
  rw [k6]
  have c6 : y5 + y5 / 4294967296 ≤ 800000000000000000 := by omega
  generalize y5 + y5 / 4294967296 = y6 at *
  rw [w64 _ (by omega), show (127 : Int) = ((127 : Nat) : Int) by rfl, and_i64 _ _ (by omega) (by decide), show (127 : Nat) = 2 ^ 7 - 1 by decide, Nat.and_two_pow_sub_one_eq_mod]
  rw [show (2 ^ 7 : Nat) = 128 by decide, ep]

theorem ones64_any (x : Nat) (w : World) (hx : x < 18446744073709551616) :
    Calls Try.prog 77 #[.int .u64 x] w fun e w' => e = .returned (.int .i64 ((pcnt x 64 : Nat) : Int)) ∧ w' = w := by
  have h := ones64_int x w (by omega) (by omega)
  rwa [popZ x hx] at h

theorem pcnt_le (x : Nat) : pcnt x 64 ≤ 64 := cnt_le _ _ fun i => by cases x.testBit i <;> decide

/-- How many of the first k bits of a row are 1. -/
def ones (xs : List Nat) (k : Nat) : Nat := cnt (fun i => (tb xs i).toNat) k
theorem ones_le (xs : List Nat) (k : Nat) : ones xs k ≤ k := cnt_le _ _ fun i => by cases tb xs i <;> decide

theorem ones_word (xs : List Nat) (k : Nat) (hk : k < xs.length) : ones xs (64 * (k + 1)) = ones xs (64 * k) + pcnt (xs.getD k 0) 64 := by
  unfold ones pcnt
  rw [show 64 * (k + 1) = 64 * k + 64 by omega, cnt_add]
  congr 1
  refine cnt_congr _ _ _ fun i hi => ?_
  unfold tb
  rw [show (64 * k + i) / 64 = k by omega, show (64 * k + i) % 64 = i by omega]

theorem ones_right {V : Nat} {xs : List Nat} (hok : rightB V xs = true) : ones xs (64 * xs.length) = ones xs V := by
  have h := right_W hok
  have e : 64 * xs.length = V + (64 * xs.length - V) := by omega
  unfold ones
  rw [e, cnt_add]
  have : cnt (fun i => (tb xs (V + i)).toNat) (64 * xs.length - V) = 0 := by
    have hz : ∀ k, cnt (fun i => (tb xs (V + i)).toNat) k = 0 := by
      intro k
      induction k with
      | zero => rfl
      | succ k ih => rw [cnt, ih, tb_out hok (V + k) (by omega)]; rfl
    exact hz _
  omega

def onesI (W : Int) (xs : List Nat) : Int := if rightB W xs = true then ((ones xs W.toNat : Nat) : Int) else -1

theorem specOnes_any (W : Int) (a : Option Addr) (c : Nat) (xs : List Nat) (w : World) (hr : Rd w a xs) :
    Calls Try.prog 54 #[.agg #[.int .i64 W, .slice a xs.length c]] w fun e w' => e = .returned (.int .i64 (onesI W xs)) ∧ Below w.heap.size w w' := by
  have hr' := hr.later ((Below.refl _ w).alloc (Nat.le_refl _) (Obj.cells #[Value.int IntKind.i64 W, Value.slice a xs.length c] 26))
  by_cases hok : rightB W xs = true
  · rw [onesI, if_pos hok]
    obtain ⟨hW1, hW2, hWl⟩ := right_W hok
    obtain ⟨V, rfl⟩ := Int.eq_ofNat_of_zero_le (show 0 ≤ W by omega)
    rw [Int.toNat_natCast]
    have hVl : V ≤ 64 * xs.length := by omega
    clear hWl
    go_enter Try.func54, Try.ntmps54
    go_wp2_with fail
    refine (specOk_any _ _ _ _ _ hr').mono ?_
    rintro e w1 ⟨rfl, hb1⟩
    have s1 := (St.start w _).next hb1
    clear hb1 hr'
    go_wp2_with fail
    go_loopw [3, 4] (fun q i wr => ∃ k : Nat, k ≤ V ∧ i = .int .i64 k ∧ q = .int .i64 ((ones xs k : Nat) : Int) ∧ St w (.cells #[Value.int IntKind.i64 V, Value.slice a xs.length c] 26) wr) (fun _ i _ => V - (intOf i).toNat)
    case atStart => exact ⟨0, Nat.zero_le _, rfl, rfl, s1⟩
    case round =>
      obtain ⟨k, hk, rfl, rfl, hst⟩ := hrel
      obtain ⟨c0, c1⟩ := hst.two
      have hol := ones_le xs k
      by_cases hlt : k < V
      · have hr2 := hst.rd hr
        have HS : Hid (ones xs (k + 1) = ones xs k + (tb xs k).toNat) := rfl
        have htl : (tb xs k).toNat ≤ 1 := by cases tb xs k <;> decide
        go_wp2_with fail
        refine (l1Bit_any _ _ _ _ _ _ hr2 (by omega)).mono ?_
        rintro e w2 ⟨rfl, hb2⟩
        have hst2 := hst.next hb2
        clear hst c0 c1 hb2 s1
        generalize (tb xs k).toNat = t at *
        generalize ones xs k = z at *
        go_wp2
        go_roundw
        case rel => exact ⟨k + 1, by omega, by go_num, by rw [HS.out]; go_num, hst2⟩
        case measure => simp [intOf]; omega
      · have e : k = V := by omega
        subst e
        go_wp2
        go_ret
        exact ⟨rfl, hst.below⟩
  · have hf : rightB W xs = false := by simpa using hok
    rw [onesI, if_neg hok]
    go_enter Try.func54, Try.ntmps54
    go_wp2_with fail
    refine (specOk_any _ _ _ _ _ hr').mono ?_
    rintro e w1 ⟨rfl, hb1⟩
    have s1 := (St.start w _).next hb1
    go_wp2
    go_ret
    exact ⟨rfl, s1.below⟩

theorem implOnes_any (W : Int) (a : Option Addr) (c : Nat) (xs : List Nat) (w : World) (hr : Rd w a xs) :
    Calls Try.prog 31 #[.agg #[.int .i64 W, .slice a xs.length c]] w fun e w' => e = .returned (.int .i64 (onesI W xs)) ∧ Below w.heap.size w w' := by
  have hr' := hr.later ((Below.refl _ w).alloc (Nat.le_refl _) (Obj.cells #[Value.int IntKind.i64 W, Value.slice a xs.length c] 26))
  by_cases hok : rightB W xs = true
  · rw [onesI, if_pos hok]
    obtain ⟨hW1, hW2, hWl⟩ := right_W hok
    obtain ⟨V, rfl⟩ := Int.eq_ofNat_of_zero_le (show 0 ≤ W by omega)
    rw [Int.toNat_natCast]
    have hxx := hr.2.1
    have hl64 : xs.length ≤ 64 := by omega
    have HE : Hid (ones xs (64 * xs.length) = ones xs V) := ones_right hok
    clear hWl
    go_enter Try.func31, Try.ntmps31
    go_wp2_with fail
    refine (implOk_any _ _ _ _ _ hr').mono ?_
    rintro e w1 ⟨rfl, hb1⟩
    have s1 := (St.start w _).next hb1
    obtain ⟨c0, c1⟩ := s1.two
    have r1 := s1.rd hr
    clear hb1 hr'
    go_wp2_with fail
    go_loop [3, 12] (fun q i => ∃ k : Nat, k ≤ xs.length ∧ i = .int .i64 k ∧ q = .int .i64 ((ones xs (64 * k) : Nat) : Int)) (fun _ i => xs.length - (intOf i).toNat)
    case atStart => exact ⟨0, Nat.zero_le _, rfl, rfl⟩
    case round =>
      obtain ⟨k, hk, rfl, rfl⟩ := hrel
      have hol := ones_le xs (64 * k)
      by_cases hlt : k < xs.length
      · obtain ⟨-, -, hn | ⟨b, o, rfl, hc⟩⟩ := r1
        · subst hn; simp at hlt
        have hcell := hc k hlt
        have hy := getD_lt hxx k
        have hpl := pcnt_le (xs.getD k 0)
        have HS : Hid (ones xs (64 * (k + 1)) = ones xs (64 * k) + pcnt (xs.getD k 0) 64) := ones_word xs k hlt
        have hki : (k : Int) < (xs.length : Int) := by omega
        clear hc
        generalize xs.getD k 0 = y at *
        generalize ones xs (64 * k) = z at *
        go_wp2_with (go_at_call 77; refine (ones64_any _ _ hy).mono ?_; rintro e w' ⟨rfl, rfl⟩)
        go_round
        case rel => exact ⟨k + 1, by omega, by go_num, by rw [HS.out]; go_num⟩
        case measure => simp [intOf]; omega
      · have e : k = xs.length := by omega
        subst e
        go_wp2
        go_ret
        exact ⟨ret_int (by rw [HE.out]), s1.below⟩
  · have hf : rightB W xs = false := by simpa using hok
    rw [onesI, if_neg hok]
    go_enter Try.func31, Try.ntmps31
    go_wp2_with fail
    refine (implOk_any _ _ _ _ _ hr').mono ?_
    rintro e w1 ⟨rfl, hb1⟩
    have s1 := (St.start w _).next hb1
    go_wp2
    go_ret
    exact ⟨rfl, s1.below⟩

end Go.Proofs.Ytobkemdffhhlfaa
