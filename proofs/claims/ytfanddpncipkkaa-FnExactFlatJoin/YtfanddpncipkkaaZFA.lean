/- Several texts in one. -/
import Derived.WalkKit
import Derived.Lib.BitFns
import Derived.Test.YtfanddpncipkkaaProg
import Derived.WalkSpells
import Derived.Deep.QuietTactic
import Derived.BigQuiet
import Derived.Outline
import Derived.WalkSmall
import Derived.Lib.Strings
import Derived.Lib.Slices
import Derived.Lib.Small
import Derived.Lib.Walk
import Derived.Deep.OwnRows

/- Plain facts on words of 64 bits as numbers: the bit at a place, what a right row is. No program in sight. -/
namespace Go.Proofs.Ytfanddpncipkkaa
set_option linter.unusedVariables false
set_option linter.unusedSimpArgs false
open Go.RowKit

def wOk (W : Int) : Bool := decide (1 ≤ W ∧ W ≤ 4096)

/-- The bit i of a row of words of 64 bits. -/
def tb (xs : List Nat) (i : Nat) : Bool := (xs.getD (i / 64) 0).testBit (i % 64)

theorem tb_div (xs : List Nat) (i : Nat) : xs.getD (i / 64) 0 / 2 ^ (i % 64) % 2 = (tb xs i).toNat := by
  unfold tb
  rw [Nat.testBit_eq_decide_div_mod_eq]
  have := Nat.mod_two_eq_zero_or_one (xs.getD (i / 64) 0 / 2 ^ (i % 64))
  rcases this with h | h <;> rw [h] <;> rfl

/-- Nothing stands from the bit W on. -/
def clear (W : Int) (xs : List Nat) : Bool := (List.range (64 * xs.length)).all fun i => decide ((i : Int) < W) || !tb xs i

theorem clear_iff (W : Int) (xs : List Nat) : clear W xs = true ↔ ∀ i : Nat, W ≤ (i : Int) → i < 64 * xs.length → tb xs i = false := by
  unfold clear
  rw [List.all_eq_true]
  constructor
  · intro h i h1 h2
    have := h i (List.mem_range.2 h2)
    simp at this
    rcases this with h' | h'
    · omega
    · exact h'
  · intro h i hi
    have hi' := List.mem_range.1 hi
    by_cases h1 : (i : Int) < W
    · simp [h1]
    · simp [h i (by omega) hi']

def rightB (W : Int) (xs : List Nat) : Bool := wOk W && decide ((xs.length : Int) = (W + 63) / 64) && clear W xs

theorem rightB_no1 {W : Int} {xs : List Nat} (h : wOk W = false) : rightB W xs = false := by simp [rightB, h]
theorem rightB_no2 {W : Int} {xs : List Nat} (h : ¬ (xs.length : Int) = (W + 63) / 64) : rightB W xs = false := by simp [rightB, h]
theorem rightB_clear {W : Int} {xs : List Nat} (h : wOk W = true) (h2 : (xs.length : Int) = (W + 63) / 64) : rightB W xs = clear W xs := by simp [rightB, h, h2]

/-- The last word alone tells whether a row of just enough words is clear from W on. -/
theorem clear_last {W : Int} {xs : List Nat} (hx : ∀ x ∈ xs, x < 18446744073709551616) (hw : wOk W = true) (hl : (xs.length : Int) = (W + 63) / 64) :
    clear W xs = decide (64 * ((xs.length : Int) - 1) + (Lib.bitLen (xs.getD (xs.length - 1) 0) : Int) ≤ W) := by
  have hW : 1 ≤ W ∧ W ≤ 4096 := by simpa [wOk] using hw
  have hpos : 0 < xs.length := by omega
  have hlast : xs.getD (xs.length - 1) 0 < 18446744073709551616 := by
    have e : xs.getD (xs.length - 1) 0 = xs[xs.length - 1]'(by omega) := by simp [List.getD, show xs.length - 1 < xs.length by omega]
    rw [e]; exact hx _ (List.getElem_mem _)
  obtain ⟨r, hr⟩ : ∃ r : Nat, (r : Int) = W - 64 * ((xs.length : Int) - 1) := ⟨(W - 64 * ((xs.length : Int) - 1)).toNat, by omega⟩
  have hr64 : r ≤ 64 := by omega
  generalize hy : xs.getD (xs.length - 1) 0 = y at hlast ⊢
  have key : Lib.bitLen y ≤ r ↔ clear W xs = true := by
    have hb : Lib.bitLen y ≤ r ↔ y < 2 ^ r := by
      refine ⟨fun h => ?_, Lib.bitLen_le y r hr64⟩
      rcases Nat.lt_or_ge y (2 ^ r) with h' | h'
      · exact h'
      · have s := Lib.bitLen_shift r y h' hlast
        have hp : 0 < y / 2 ^ r := Nat.div_pos h' (Nat.two_pow_pos r)
        have hh := Lib.bitLen_half (y / 2 ^ r) (by omega) (Nat.lt_of_le_of_lt (Nat.div_le_self _ _) hlast)
        omega
    rw [hb, clear_iff]
    constructor
    · intro h i h1 h2
      have e1 : i / 64 = xs.length - 1 := by omega
      unfold tb
      rw [e1, hy]
      refine Nat.testBit_lt_two_pow (Nat.lt_of_lt_of_le h (Nat.pow_le_pow_right (by omega) (by omega)))
    · intro h
      refine Nat.lt_pow_two_of_testBit y fun j hj => ?_
      by_cases h64 : j < 64
      · have := h (64 * (xs.length - 1) + j) (by omega) (by omega)
        unfold tb at this
        rw [show (64 * (xs.length - 1) + j) / 64 = xs.length - 1 by omega, show (64 * (xs.length - 1) + j) % 64 = j by omega, hy] at this
        exact this
      · exact Nat.testBit_lt_two_pow (Nat.lt_of_lt_of_le hlast (show 2 ^ 64 ≤ 2 ^ j from Nat.pow_le_pow_right (by omega) (by omega)))
  by_cases h : Lib.bitLen y ≤ r
  · rw [key.1 h]; symm; simp; omega
  · have : clear W xs = false := by
      cases hc : clear W xs with
      | false => rfl
      | true => exact absurd (key.2 hc) h
    rw [this]; symm; simp; omega

end Go.Proofs.Ytfanddpncipkkaa

/- Contracts of the smallest functions of the words of bits: widthOk, wordsFor, l1In, l1Bit. -/
namespace Go.Proofs.Ytfanddpncipkkaa
set_option linter.unusedVariables false
set_option linter.unusedSimpArgs false
open Go.RowKit

theorem widthOk_any (W : Int) (w : World) :
    Calls Try.prog 77 #[.int .i64 W] w fun e w' => e = .returned (.bool (wOk W)) ∧ w' = w := by
  by_cases h1 : 1 ≤ W
  · by_cases h2 : W ≤ 4096
    · go_enter Try.func77, Try.ntmps77
      go_wp2
      go_ret
      exact ⟨by simp [wOk, h1, h2], rfl⟩
    · go_enter Try.func77, Try.ntmps77
      go_wp2
      go_ret
      exact ⟨by simp [wOk, h1, h2], rfl⟩
  · go_enter Try.func77, Try.ntmps77
    go_wp2
    go_ret
    exact ⟨by simp [wOk]; omega, rfl⟩

theorem wordsFor_any (W : Int) (h0 : 1 ≤ W) (h1 : W ≤ 4096) (w : World) :
    Calls Try.prog 80 #[.int .i64 W] w fun e w' => e = .returned (.int .i64 ((W + 63) / 64)) ∧ w' = w := by
  have e : (W + 64 - 1) / 64 = (W + 63) / 64 := by omega
  go_enter Try.func80, Try.ntmps80
  go_wp2
  go_ret
  exact ⟨by simp [e], rfl⟩

/-- A slice whose words are xs, wherever it lies. -/
def Rd (w : World) (a : Option Addr) (xs : List Nat) : Prop :=
  xs.length ≤ 1048576 ∧ (∀ x ∈ xs, x < 18446744073709551616) ∧ (xs = [] ∨ ∃ b o, a = some ⟨b, o, none⟩ ∧ ∀ i, i < xs.length → w.cell? ⟨b, o + i, none⟩ = some (.int .u64 ((xs.getD i 0 : Nat) : Int)))

theorem Rd.later {w w' : World} {a : Option Addr} {xs : List Nat} (h : Rd w a xs) (hb : Below w.heap.size w w') : Rd w' a xs := by
  obtain ⟨h1, h2, h3⟩ := h
  refine ⟨h1, h2, ?_⟩
  rcases h3 with h3 | ⟨b, o, rfl, hc⟩
  · exact .inl h3
  · refine .inr ⟨b, o, rfl, fun i hi => ?_⟩
    have := hc i hi
    rw [hb.cell (p := ⟨b, o + i, none⟩) (by exact block_lt_of_cell this)]
    exact this

theorem andOne (y k : Nat) (h : y < 18446744073709551616) : bits BinOp.and IntKind.u64 ((y : Int) / 2 ^ k) 1 % 256 = ((y / 2 ^ k % 2 : Nat) : Int) := by
  have e : ((y : Int) / 2 ^ k) = ((y / 2 ^ k : Nat) : Int) := by simp
  have hlt : y / 2 ^ k < 18446744073709551616 := Nat.lt_of_le_of_lt (Nat.div_le_self _ _) h
  rw [e, and_one_u64 _ (Int.natCast_nonneg _) (by omega)]
  omega

theorem l1In_any (n l h : Int) (w : World) :
    Calls Try.prog 70 #[.int .i64 n, .int .i64 l, .int .i64 h] w fun e w' => e = .returned (.bool (decide (l ≤ n ∧ n ≤ h))) ∧ w' = w := by
  by_cases h1 : l ≤ n
  · by_cases h2 : n ≤ h
    · go_enter Try.func70, Try.ntmps70
      go_wp2
      go_ret
      exact ⟨by simp [h1, h2], rfl⟩
    · go_enter Try.func70, Try.ntmps70
      go_wp2
      go_ret
      exact ⟨by simp [h1, h2], rfl⟩
  · go_enter Try.func70, Try.ntmps70
    go_wp2
    go_ret
    exact ⟨by simp; omega, rfl⟩

theorem l1Bit_any (W : Int) (a : Option Addr) (c : Nat) (xs : List Nat) (i : Nat) (w : World) (hr : Rd w a xs) (hi : i < 64 * xs.length) :
    Calls Try.prog 51 #[.agg #[.int .i64 W, .slice a xs.length c], .int .i64 i] w fun e w' => e = .returned (.int .u8 (((tb xs i).toNat : Nat) : Int)) ∧ Below w.heap.size w w' := by
  obtain ⟨hl, hx, h | ⟨b, o, rfl, hc⟩⟩ := hr
  · subst h; simp at hi
  have hcell := hc (i / 64) (by omega)
  have hb : b < w.heap.size := block_lt_of_cell hcell
  have htb := tb_div xs i
  have hlt : xs.getD (i / 64) 0 < 18446744073709551616 := by
    have e : xs.getD (i / 64) 0 = xs[i / 64]'(by omega) := by simp [List.getD, show i / 64 < xs.length by omega]
    rw [e]; exact hx _ (List.getElem_mem _)
  generalize hy : xs.getD (i / 64) 0 = y at hcell htb hlt
  generalize (tb xs i).toNat = t at htb ⊢
  have Hb : Hid (bits BinOp.and IntKind.u64 ((y : Int) / 2 ^ (i % 64)) 1 % 256 = (t : Int)) := by rw [andOne y _ hlt, htb]; rfl
  clear hc hx hy hlt htb
  go_enter Try.func51, Try.ntmps51
  go_wp2
  go_ret
  exact ⟨by simp [Hb.out], (Below.refl _ _).alloc (Nat.le_refl _) _⟩

end Go.Proofs.Ytfanddpncipkkaa

/- What math/bits.Len64 answers: how many bits a word needs. -/
namespace Go.Proofs.Ytfanddpncipkkaa
set_option linter.unusedVariables false
set_option linter.unusedSimpArgs false
open Go.RowKit

theorem tabSize : Lib.len8tab.size = 256 := by decide +kernel
theorem tabAll : ∀ n : Fin 256, (Lib.len8tab[n.val]'(by rw [tabSize]; exact n.isLt)).toNat = Lib.bitLen n.val := by decide +kernel
theorem tabAt (n : Nat) (h : n < Lib.len8tab.size) : (Lib.len8tab[n]'h).toNat = Lib.bitLen n := tabAll ⟨n, by rw [tabSize] at h; exact h⟩
theorem bl_le8 (n : Nat) (h : n < 256) : Lib.bitLen n ≤ 8 := Lib.bitLen_le n 8 (by omega) h

theorem bl_le (x k : Nat) (hk : k ≤ 64) (hx : x < 2 ^ 64) : Lib.bitLen x ≤ k ↔ x < 2 ^ k := by
  refine ⟨fun h => ?_, Lib.bitLen_le x k hk⟩
  rcases Nat.lt_or_ge x (2 ^ k) with h' | h'
  · exact h'
  · have s := Lib.bitLen_shift k x h' hx
    have hp : 0 < x / 2 ^ k := Nat.div_pos h' (Nat.two_pow_pos k)
    have h0 : Lib.bitLen (x / 2 ^ k) = 0 := by omega
    have hh := Lib.bitLen_half (x / 2 ^ k) (by omega) (Nat.lt_of_le_of_lt (Nat.div_le_self _ _) hx)
    omega

theorem w64 (n : Int) (h : -9223372036854775808 ≤ n ∧ n ≤ 9223372036854775807) : wrap64 n = n := by unfold wrap64; omega

theorem bl_wrap (a : Int) (k x n : Nat) (hn : n < Lib.len8tab.size) (hk : k ≤ 56) (ha : a = (k : Int)) (hx : x < 2 ^ 64) (hx' : 2 ^ k ≤ x) (hnx : n = x / 2 ^ k) :
    wrap64 (a + wrap64 ((Lib.len8tab[n]'hn).toNat : Int)) = ((Lib.bitLen x : Nat) : Int) := by
  have e := tabAt n hn
  have l := bl_le8 n (by rw [tabSize] at hn; exact hn)
  have s := Lib.bitLen_shift k x hx' hx
  rw [← hnx] at s
  subst ha
  rw [e, w64 (Lib.bitLen n : Int) (by omega), w64 _ (by omega)]
  omega
theorem bl_wrap0 (x : Nat) (hn : x < Lib.len8tab.size) : wrap64 (wrap64 ((Lib.len8tab[x]'hn).toNat : Int)) = ((Lib.bitLen x : Nat) : Int) := by
  have e := tabAt x hn
  have l := bl_le8 x (by rw [tabSize] at hn; exact hn)
  rw [e, w64 (Lib.bitLen x : Int) (by omega), w64 _ (by omega)]

set_option maxHeartbeats 1000000 in
set_option maxRecDepth 100000 in
theorem len64_int (x : Int) (w : World) (h0 : 0 ≤ x) (h1 : x ≤ 18446744073709551615) :
    Calls Try.prog 98 #[.int .u64 x] w fun e w' => e = .returned (.int .i64 ((Lib.bitLen x.toNat : Nat) : Int)) ∧ w' = w := by
  have hs : (Lib.len8tab.size : Int) = 256 := by rw [tabSize]; rfl
  go_enter Try.func98, Try.ntmps98
  go_wp2
  all_goals (go_ret; refine ⟨congrArg Ending.returned (congrArg (Value.int IntKind.i64) ?_), rfl⟩)
  · exact bl_wrap _ 56 x.toNat _ _ (by omega) rfl (by omega) (by omega) (by omega)
  · exact bl_wrap _ 48 x.toNat _ _ (by omega) rfl (by omega) (by omega) (by omega)
  · exact bl_wrap _ 40 x.toNat _ _ (by omega) rfl (by omega) (by omega) (by omega)
  · exact bl_wrap _ 32 x.toNat _ _ (by omega) rfl (by omega) (by omega) (by omega)
  · exact bl_wrap _ 24 x.toNat _ _ (by omega) rfl (by omega) (by omega) (by omega)
  · exact bl_wrap _ 16 x.toNat _ _ (by omega) rfl (by omega) (by omega) (by omega)
  · exact bl_wrap _ 8 x.toNat _ _ (by omega) rfl (by omega) (by omega) (by omega)
  · exact bl_wrap0 x.toNat _

theorem len64_any (x : Nat) (w : World) (hx : x < 18446744073709551616) :
    Calls Try.prog 98 #[.int .u64 x] w fun e w' => e = .returned (.int .i64 ((Lib.bitLen x : Nat) : Int)) ∧ w' = w := by
  have := len64_int x w (by omega) (by omega)
  rwa [Int.toNat_natCast] at this

end Go.Proofs.Ytfanddpncipkkaa

/- What the two BitsOk answer: both say just of right rows that they are right. -/
namespace Go.Proofs.Ytfanddpncipkkaa
set_option linter.unusedVariables false
set_option linter.unusedSimpArgs false
open Go.RowKit

theorem decide_wOk (W : Int) : decide (1 ≤ W ∧ W ≤ 4096) = wOk W := rfl

theorem ret_bool {a b : Bool} (h : a = b) : Ending.returned (.bool a) = .returned (.bool b) := by rw [h]
theorem ret_int {k : IntKind} {a b : Int} (h : a = b) : Ending.returned (.int k a) = .returned (.int k b) := by rw [h]

theorem implOk_any (W : Int) (a : Option Addr) (c : Nat) (xs : List Nat) (w : World) (hr : Rd w a xs) :
    Calls Try.prog 85 #[.agg #[.int .i64 W, .slice a xs.length c]] w fun e w' => e = .returned (.bool (rightB W xs)) ∧ Below w.heap.size w w' := by
  cases hw : wOk W with
  | false =>
    rw [rightB_no1 hw]
    go_enter Try.func85, Try.ntmps85
    go_wp2_with fail
    go_quiet ((go_at_call 77; exact Calls.quiet_of_same (widthOk_any _ _)))
    go_wp2
    go_ret
    exact ⟨rfl, below_drewN ((Below.refl _ _).alloc (Nat.le_refl _) _) _⟩
  | true =>
    have hW : 1 ≤ W ∧ W ≤ 4096 := by simpa [wOk] using hw
    by_cases hl : (xs.length : Int) = (W + 63) / 64
    · rw [rightB_clear hw hl, clear_last hr.2.1 hw hl]
      obtain ⟨h1, hx, h | ⟨b, o, rfl, hc⟩⟩ := hr
      · subst h; simp at hl; omega
      have hpos : 0 < xs.length := by omega
      have hcell := hc (xs.length - 1) (by omega)
      have hlt : xs.getD (xs.length - 1) 0 < 18446744073709551616 := by
        have e : xs.getD (xs.length - 1) 0 = xs[xs.length - 1]'(by omega) := by simp [List.getD, show xs.length - 1 < xs.length by omega]
        rw [e]; exact hx _ (List.getElem_mem _)
      have hblk : b < w.heap.size := block_lt_of_cell hcell
      have hne : ((xs.length : Int) != (W + 63) / 64) = false := by simp [hl]
      have hbl : Lib.bitLen (xs.getD (xs.length - 1) 0) ≤ 64 := Lib.bitLen_le _ 64 (by omega) hlt
      generalize xs.getD (xs.length - 1) 0 = y at *
      generalize hn : xs.length = n at *
      clear hc hx hn
      obtain ⟨hW1, hW2⟩ := hW
      have hn64 : n ≤ 64 := by omega
      clear hl
      obtain ⟨m, rfl⟩ : ∃ m, n = m + 1 := ⟨n - 1, by omega⟩
      simp only [Nat.add_sub_cancel] at hcell
      have hi0 : (0 : Int) ≤ (m : Int) := by omega
      have hi1 : (m : Int) < (m : Int) + 1 := by omega
      go_enter Try.func85, Try.ntmps85
      go_wp2_with fail
      go_quiet ((first | (go_at_call 77; exact Calls.quiet_of_same (widthOk_any _ _)) | (go_at_call 80; exact Calls.quiet_of_same (wordsFor_any _ hW1 hW2 _))))
      go_wp2_with fail
      go_quiet ((go_at_call 98; refine (len64_any _ _ hlt).mono ?_; rintro e w' ⟨rfl, rfl⟩; exact ⟨rfl, _, rfl⟩))
      go_wp2
      go_ret
      exact ⟨ret_bool (by rw [Bool.eq_iff_iff]; simp; omega), below_drewN (below_drewN ((Below.refl _ _).alloc (Nat.le_refl _) _) _) _⟩
    · rw [rightB_no2 hl]
      have hne : ((xs.length : Int) != (W + 63) / 64) = true := by simp [hl]
      obtain ⟨hW1, hW2⟩ := hW
      have h1 := hr.1
      clear hl hr
      go_enter Try.func85, Try.ntmps85
      go_wp2_with fail
      go_quiet ((first | (go_at_call 77; exact Calls.quiet_of_same (widthOk_any _ _)) | (go_at_call 80; exact Calls.quiet_of_same (wordsFor_any _ hW1 hW2 _))))
      go_wp2
      go_ret
      exact ⟨rfl, below_drewN ((Below.refl _ _).alloc (Nat.le_refl _) _) _⟩

theorem specOk_any (W : Int) (a : Option Addr) (c : Nat) (xs : List Nat) (w : World) (hr : Rd w a xs) :
    Calls Try.prog 73 #[.agg #[.int .i64 W, .slice a xs.length c]] w fun e w' => e = .returned (.bool (rightB W xs)) ∧ Below w.heap.size w w' := by
  have hlen := hr.1
  cases hw : wOk W with
  | false =>
    rw [rightB_no1 hw]
    clear hr
    have hd : decide (1 ≤ W ∧ W ≤ 4096) = false := hw
    go_enter Try.func73, Try.ntmps73
    go_wp2_with (go_at_call 70; refine (l1In_any _ _ _ _).mono ?_; rintro e w' ⟨rfl, rfl⟩)
    go_ret
    exact ⟨rfl, (Below.refl _ _).alloc (Nat.le_refl _) _⟩
  | true =>
    have hd : decide (1 ≤ W ∧ W ≤ 4096) = true := hw
    have hW : 1 ≤ W ∧ W ≤ 4096 := by simpa [wOk] using hw
    obtain ⟨hW1, hW2⟩ := hW
    by_cases hl : (xs.length : Int) = (W + 63) / 64
    · rw [rightB_clear hw hl]
      have hne : ((xs.length : Int) != (W + 63) / 64) = false := by simp [hl]
      have hcl := clear_iff W xs
      generalize hcv : clear W xs = cv at hcl ⊢
      have Hcl := show Hid _ from hcl
      have HL : Hid ((xs.length : Int) = (W + 63) / 64) := hl
      clear hcl hl hcv
      obtain ⟨V, rfl⟩ := Int.eq_ofNat_of_zero_le (show 0 ≤ W by omega)
      go_enter Try.func73, Try.ntmps73
      go_wp2_with (go_at_call 70; refine (l1In_any _ _ _ _).mono ?_; rintro e w' ⟨rfl, rfl⟩)
      clear hne
      go_loopw [3] (fun i wr => ∃ k : Nat, V ≤ k ∧ k ≤ 64 * xs.length ∧ i = .int .i64 k ∧ (∀ j : Nat, V ≤ j → j < k → tb xs j = false) ∧ Below (w.heap.size + 1) (w.alloc (Obj.cells #[Value.int IntKind.i64 V, Value.slice a xs.length c] 45)) wr) (fun i _ => 64 * xs.length - (intOf i).toNat)
      case atStart => exact ⟨V, Nat.le_refl _, by have := HL.out; omega, rfl, fun j h1 h2 => by omega, Below.refl _ _⟩
      case round =>
        obtain ⟨k, hk1, hk2, rfl, hz, hbel⟩ := hrel
        have HZ : Hid (∀ j : Nat, V ≤ j → j < k → tb xs j = false) := hz
        have hc0 : wr.cell? ⟨w.heap.size, 0, none⟩ = some (Value.int IntKind.i64 V) := by rw [hbel.cell (by simp)]; simp
        have hc1 : wr.cell? ⟨w.heap.size, 1, none⟩ = some (Value.slice a xs.length c) := by rw [hbel.cell (by simp)]; simp
        have hsz := hbel.size
        simp at hsz
        have hr' : Rd wr a xs := (hr.later ((Below.refl _ _).alloc (Nat.le_refl _) _)).later (hbel.mono (by simp))
        have HB := show Hid _ from hbel
        clear hz hbel hr
        by_cases hlt : k < 64 * xs.length
        · cases htb : tb xs k with
          | true =>
            go_wp2_with (go_at_call 51; refine (l1Bit_any _ _ _ _ _ _ hr' hlt).mono ?_; rintro e w1 ⟨rfl, hb1⟩)
            go_ret
            refine ⟨ret_bool ?_, ((((Below.refl _ _).alloc (Nat.le_refl _) _).trans (HB.out.mono (Nat.le_succ _))).trans (hb1.mono (by omega)))⟩
            cases cv with
            | false => rfl
            | true => exact absurd (Hcl.out.1 rfl k (by omega) hlt) (by simp [htb])
          | false =>
            go_wp2_with (go_at_call 51; refine (l1Bit_any _ _ _ _ _ _ hr' hlt).mono ?_; rintro e w1 ⟨rfl, hb1⟩)
            go_roundw
            case rel =>
              refine ⟨k + 1, by omega, by omega, by go_num, fun j h1 h2 => ?_, HB.out.trans (hb1.mono (by omega))⟩
              by_cases hj : j = k
              · rw [hj]; exact htb
              · exact HZ.out j h1 (by omega)
            case measure => simp [intOf]; omega
        · go_wp2
          go_ret
          refine ⟨ret_bool ?_, ((Below.refl _ _).alloc (Nat.le_refl _) _).trans (HB.out.mono (Nat.le_succ _))⟩
          exact (Hcl.out.2 fun j h1 h2 => HZ.out j (by omega) (by omega)).symm
    · rw [rightB_no2 hl]
      have hne : ((xs.length : Int) != (W + 63) / 64) = true := by simp [hl]
      clear hl hr
      go_enter Try.func73, Try.ntmps73
      go_wp2_with (go_at_call 70; refine (l1In_any _ _ _ _).mono ?_; rintro e w' ⟨rfl, rfl⟩)
      go_ret
      exact ⟨rfl, (Below.refl _ _).alloc (Nat.le_refl _) _⟩

end Go.Proofs.Ytfanddpncipkkaa

/- Contracts of the laws' own small functions on rows of words: how long, copied, compared, marked, held. -/
namespace Go.Proofs.Ytfanddpncipkkaa
set_option linter.unusedVariables false
set_option linter.unusedSimpArgs false
open Go.RowKit

theorem Try.infoU64 : (Try.prog.info? 94).map (fun i => (i.zero, i.size, i.bytes)) = some (some (.int .u64 0), 1, 8) := by kernel_rfl

def u64s (xs : List Nat) : Array Value := (xs.map fun (x : Nat) => Value.int .u64 (x : Int)).toArray

theorem u64s_size (xs : List Nat) : (u64s xs).size = xs.length := by simp [u64s]
theorem u64s_get (xs : List Nat) (i : Nat) (h : i < xs.length) : (u64s xs)[i]? = some (.int .u64 ((xs.getD i 0 : Nat) : Int)) := by simp [u64s, List.getD, h]
theorem u64s_set (xs : List Nat) (i x : Nat) : (u64s xs).setIfInBounds i (.int .u64 (x : Int)) = u64s (xs.set i x) := by
  simp [u64s, List.setIfInBounds_toArray, List.map_set]
theorem u64s_made (n : Nat) : madeCells #[Value.int .u64 0] n = u64s (List.replicate n 0) := by
  apply Array.toList_inj.1
  rw [toList_madeCells_one]
  simp [u64s]

/-- The block g holds just the words xs, and may be written. -/
def Own (w : World) (g : Nat) (xs : List Nat) : Prop := w.heap[g]? = some (.cells (u64s xs) 94 (0, 0))

theorem Own.cell {w : World} {g : Nat} {xs : List Nat} (h : Own w g xs) {i : Nat} (hi : i < xs.length) : w.cell? ⟨g, i, none⟩ = some (.int .u64 ((xs.getD i 0 : Nat) : Int)) := by
  rw [cell_of_row w g i _ _ _ h, u64s_get _ _ hi]
theorem Own.free {w : World} {g : Nat} {xs : List Nat} (h : Own w g xs) (i : Nat) : w.frozen? ⟨g, i, none⟩ = false := frozen_of_row w g i _ _ h
theorem Own.lt {w : World} {g : Nat} {xs : List Nat} (h : Own w g xs) : g < w.heap.size := lt_of_block h
theorem Own.put {w : World} {g : Nat} {xs : List Nat} (h : Own w g xs) (i x : Nat) : Own (w.setCell ⟨g, i, none⟩ (.int .u64 (x : Int))) g (xs.set i x) := by
  unfold Own
  rw [heap_setCell_same w g i _ _ _ h, u64s_set]
theorem Own.rd {w : World} {g : Nat} {xs : List Nat} (h : Own w g xs) (hl : xs.length ≤ 1048576) (hx : ∀ x ∈ xs, x < 18446744073709551616) : Rd w (some ⟨g, 0, none⟩) xs :=
  ⟨hl, hx, .inr ⟨g, 0, rfl, fun i hi => by rw [Nat.zero_add]; exact h.cell hi⟩⟩
theorem Own.later {w w' : World} {g B : Nat} {xs : List Nat} (h : Own w g xs) (hb : Below B w w') (hg : g < B) : Own w' g xs := by
  unfold Own
  rw [hb.block g hg]; exact h

theorem szUint64S_any (a : Option Addr) (n c : Nat) (L : Int) (w : World) (hL : 0 ≤ L) (hL2 : L ≤ 1048576) (hn : n ≤ 9223372036854775807) :
    Calls Try.prog 71 #[.slice a n c, .int .i64 L] w fun e w' => e = .returned (.int .i64 (if (n : Int) ≤ L then L - n else -1)) ∧ w' = w := by
  by_cases h : (n : Int) ≤ L
  · rw [if_pos h]
    go_enter Try.func71, Try.ntmps71
    go_wp2
    go_ret
    exact ⟨rfl, rfl⟩
  · rw [if_neg h]
    go_enter Try.func71, Try.ntmps71
    go_wp2
    go_ret
    exact ⟨rfl, rfl⟩

theorem szBits_yes (W : Int) (a : Option Addr) (n c : Nat) (L : Int) (w : World) (hL : 0 ≤ L) (hL2 : L ≤ 1048576) (hn : n ≤ 9223372036854775807) (h : (n : Int) ≤ L) :
    Calls Try.prog 48 #[.agg #[.int .i64 W, .slice a n c], .int .i64 L] w fun e w' => e = .returned (.int .i64 (L - n)) ∧ Below w.heap.size w w' := by
  go_enter Try.func48, Try.ntmps48
  go_wp2_with (go_at_call 71; refine (szUint64S_any _ _ _ _ _ hL hL2 hn).mono ?_; rw [if_pos h]; rintro e w' ⟨rfl, rfl⟩)
  go_ret
  exact ⟨rfl, (Below.refl _ _).alloc (Nat.le_refl _) _⟩

theorem szBits_no (W : Int) (a : Option Addr) (n c : Nat) (L : Int) (w : World) (hL : 0 ≤ L) (hL2 : L ≤ 1048576) (hn : n ≤ 9223372036854775807) (h : ¬ (n : Int) ≤ L) :
    Calls Try.prog 48 #[.agg #[.int .i64 W, .slice a n c], .int .i64 L] w fun e w' => e = .returned (.int .i64 (-1)) ∧ Below w.heap.size w w' := by
  go_enter Try.func48, Try.ntmps48
  go_wp2_with (go_at_call 71; refine (szUint64S_any _ _ _ _ _ hL hL2 hn).mono ?_; rw [if_neg h]; rintro e w' ⟨rfl, rfl⟩)
  go_ret
  exact ⟨rfl, (Below.refl _ _).alloc (Nat.le_refl _) _⟩

theorem take_set (xs : List Nat) (k : Nat) (h : k < xs.length) :
    (xs.take k ++ List.replicate (xs.length - k) 0).set k (xs.getD k 0) = xs.take (k + 1) ++ List.replicate (xs.length - (k + 1)) 0 := by
  apply List.ext_getElem?
  intro i
  simp only [List.getElem?_set, List.getElem?_append, List.getElem?_take, List.length_take, List.getElem?_replicate, List.length_append, List.length_replicate, List.getD]
  split <;> split <;> split <;> (try split) <;> (try split) <;> (try omega) <;> simp_all <;> (try omega)

theorem toUint64S_any (a : Option Addr) (c : Nat) (xs : List Nat) (w : World) (hr : Rd w a xs) :
    Calls Try.prog 75 #[.slice a xs.length c] w fun e w' => e = .returned (.slice (some ⟨w.heap.size, 0, none⟩) xs.length xs.length) ∧ Own w' w.heap.size xs ∧ Below w.heap.size w w' := by
  have hlen := hr.1
  have hmk := fun kl kc w => run_make_row' (P := Try.prog) 43 94 (.int .u64 0) 8 Try.underlying43 Try.infoU64 rfl kl kc xs.length (by omega) (by omega) w
  go_enter Try.func75, Try.ntmps75
  go_wp2
  go_loopw [4] (fun i wr => ∃ k : Nat, k ≤ xs.length ∧ i = .int .i64 k ∧ Own wr w.heap.size (xs.take k ++ List.replicate (xs.length - k) 0) ∧ Below w.heap.size w wr) (fun i _ => xs.length - (intOf i).toNat)
  case atStart =>
    refine ⟨0, Nat.zero_le _, rfl, ?_, (Below.refl _ _).alloc (Nat.le_refl _) _⟩
    unfold Own
    rw [heap_alloc_new, u64s_made]
    rfl
  case round =>
    obtain ⟨k, hk, rfl, hown, hbel⟩ := hrel
    by_cases hlt : k < xs.length
    · obtain ⟨-, -, h | ⟨b, o, rfl, hc⟩⟩ := hr
      · subst h; simp at hlt
      have hcell := hc k hlt
      have hb : b < w.heap.size := block_lt_of_cell hcell
      have hcw : wr.cell? ⟨b, o + k, none⟩ = some (.int .u64 ((xs.getD k 0 : Nat) : Int)) := by rw [hbel.cell (by exact hb)]; exact hcell
      have hcg := hown.cell (i := k) (by simp; omega)
      have hfg := hown.free k
      have HO := show Hid _ from hown.put k (xs.getD k 0)
      have HB := show Hid _ from hbel
      generalize (xs.take k ++ List.replicate (xs.length - k) 0).getD k 0 = z at hcg
      have HT := show Hid _ from take_set xs k hlt
      clear hc hcell hown hbel hmk
      generalize xs.getD k 0 = y at *
      go_wp2
      go_roundw
      case rel =>
        have h := HO.out
        rw [HT.out] at h
        exact ⟨k + 1, by omega, by go_num, h, HB.out.setCell (Nat.le_refl _) _⟩
      case measure => simp [intOf]; omega
    · clear hmk
      go_wp2
      go_ret
      refine ⟨rfl, ?_, hbel⟩
      have e : k = xs.length := by omega
      rw [e] at hown
      simpa using hown

end Go.Proofs.Ytfanddpncipkkaa

/- Contracts of toBits and eqBits of the laws. -/
namespace Go.Proofs.Ytfanddpncipkkaa
set_option linter.unusedVariables false
set_option linter.unusedSimpArgs false
open Go.RowKit

/-- What was laid when a call began still stands. -/
def St (w : World) (bx : Obj) (wk : World) : Prop := Below (w.heap.size + 1) (w.alloc bx) wk

theorem St.start (w : World) (bx : Obj) : St w bx (w.alloc bx) := Below.refl _ _
theorem St.size {w wk : World} {bx : Obj} (h : St w bx wk) : w.heap.size < wk.heap.size := by
  have := Below.size h
  simp at this; omega
theorem St.next {w wk w1 : World} {bx : Obj} (h : St w bx wk) (hb : Below wk.heap.size wk w1) : St w bx w1 := Below.trans h (hb.mono (by have := h.size; omega))
theorem St.next' {w wk w1 : World} {bx : Obj} {B : Nat} (h : St w bx wk) (hb : Below B wk w1) (hB : w.heap.size < B) : St w bx w1 := Below.trans h (hb.mono hB)
theorem St.cell {w wk : World} {cs : Array Value} {t : TypeId} (h : St w (.cells cs t) wk) (i : Nat) : wk.cell? ⟨w.heap.size, i, none⟩ = cs[i]? := by
  rw [Below.cell h (p := ⟨w.heap.size, i, none⟩) (by simp)]; simp
theorem St.two {w wk : World} {x y : Value} {t : TypeId} (h : St w (.cells #[x, y] t) wk) : wk.cell? ⟨w.heap.size, 0, none⟩ = some x ∧ wk.cell? ⟨w.heap.size, 1, none⟩ = some y :=
  ⟨h.cell 0, h.cell 1⟩
theorem St.below {w wk : World} {bx : Obj} (h : St w bx wk) : Below w.heap.size w wk := ((Below.refl _ _).alloc (Nat.le_refl _) _).trans (Below.mono h (Nat.le_succ _))
theorem St.rd {w wk : World} {bx : Obj} (h : St w bx wk) {a : Option Addr} {xs : List Nat} (hr : Rd w a xs) : Rd wk a xs := hr.later h.below

theorem undrew {B : Nat} {w w' : World} (h : Below B w.drew w') : Below B w w' := ⟨h.os, h.tape, h.output, h.size, h.block⟩

/-- Behind a call that lets all old blocks be: all old cells read as before, and may be written as before. -/
theorem bcell {W w1 : World} (hb : Below W.heap.size W w1) : (∀ b o, b < W.heap.size → w1.cell? ⟨b, o, none⟩ = W.cell? ⟨b, o, none⟩) ∧ (∀ b o, b < W.heap.size → w1.frozen? ⟨b, o, none⟩ = W.frozen? ⟨b, o, none⟩) :=
  ⟨fun b o h => hb.cell (p := ⟨b, o, none⟩) h, fun b o h => hb.frozen (p := ⟨b, o, none⟩) h⟩

theorem Own.other {w : World} {g : Nat} {xs : List Nat} (h : Own w g xs) {a : Addr} (ha : g ≠ a.block) (v : Value) : Own (w.setCell a v) g xs := by
  unfold Own
  rw [heap_setCell_other w a g v ha]; exact h

theorem toBits_any (W : Int) (a : Option Addr) (c : Nat) (xs : List Nat) (w : World) (hr : Rd w a xs) :
    Calls Try.prog 53 #[.agg #[.int .i64 W, .slice a xs.length c]] w fun e w' => ∃ g, e = .returned (.agg #[.int .i64 W, .slice (some ⟨g, 0, none⟩) xs.length xs.length]) ∧ w.heap.size ≤ g ∧ Own w' g xs ∧ Below w.heap.size w w' := by
  go_enter Try.func53, Try.ntmps53
  go_wp2_with fail
  refine (toUint64S_any a c xs _ ?_).mono ?_
  · exact hr.later ((((Below.refl _ _).alloc (Nat.le_refl _) _).alloc (by simp) _).alloc (by simp; omega) _)
  rintro e w1 ⟨rfl, hown, hb⟩
  obtain ⟨hc, hf⟩ := bcell hb
  have hz : w.heap.size + 1 + 1 < w1.heap.size := by have := hb.size; simp at this; omega
  have HO := show Hid _ from hown
  have HB := show Hid _ from hb
  clear hown hb hr
  go_wp2
  refine bodyPost_ret (v := .agg #[.int .i64 W, .slice (some ⟨w.heap.size + 1 + 1 + 1, 0, none⟩) xs.length xs.length]) (by simp [results, Try.results53, go_sem, hc]) rfl ⟨_, rfl, by omega, ?_, ?_⟩
  · have h := HO.out
    simp only [World.size_alloc] at h
    exact ((Own.other h (by simp) _).other (by simp; omega) _).other (by simp; omega) _
  · have h := HB.out
    have h0 : Below w.heap.size w w1 := ((((Below.refl _ _).alloc (Nat.le_refl _) _).alloc (by simp) _).alloc (by simp; omega) _).trans (h.mono (by simp; omega))
    exact ((h0.setCell (by simp; omega) _).setCell (by simp) _).setCell (by simp) _

theorem eqUint64S_any (a b : Option Addr) (c d : Nat) (xs ys : List Nat) (w : World) (hr : Rd w a xs) (hs : Rd w b ys) :
    Calls Try.prog 84 #[.slice a xs.length c, .slice b ys.length d] w fun e w' => e = .returned (.bool (decide (xs = ys))) ∧ Below w.heap.size w w' := by
  have hl1 := hr.1
  have hl2 := hs.1
  by_cases hl : xs.length = ys.length
  · have hne : ((xs.length : Int) != (ys.length : Int)) = false := by simp [hl]
    have HL : Hid (xs.length = ys.length) := hl
    clear hl
    go_enter Try.func84, Try.ntmps84
    go_wp2
    clear hne
    go_loopw [5] (fun i wr => ∃ k : Nat, k ≤ xs.length ∧ i = .int .i64 k ∧ (∀ j, j < k → xs.getD j 0 = ys.getD j 0) ∧ Below w.heap.size w wr) (fun i _ => xs.length - (intOf i).toNat)
    case atStart => exact ⟨0, Nat.zero_le _, rfl, fun j h => by omega, Below.refl _ _⟩
    case round =>
      obtain ⟨k, hk, rfl, hz, hbel⟩ := hrel
      have HZ := show Hid _ from hz
      have HB := show Hid _ from hbel
      by_cases hlt : k < xs.length
      · obtain ⟨-, -, h | ⟨b1, o1, rfl, hc1⟩⟩ := hr
        · subst h; simp at hlt
        have hlt2 : k < ys.length := by have := HL.out; omega
        obtain ⟨-, -, h | ⟨b2, o2, rfl, hc2⟩⟩ := hs
        · subst h; simp at hlt2
        have e1 := hc1 k hlt
        have e2 := hc2 k hlt2
        have f1 : wr.cell? ⟨b1, o1 + k, none⟩ = some (.int .u64 ((xs.getD k 0 : Nat) : Int)) := by rw [hbel.cell (by exact block_lt_of_cell e1)]; exact e1
        have f2 : wr.cell? ⟨b2, o2 + k, none⟩ = some (.int .u64 ((ys.getD k 0 : Nat) : Int)) := by rw [hbel.cell (by exact block_lt_of_cell e2)]; exact e2
        have hxe : decide (xs = ys) = false ∨ xs.getD k 0 = ys.getD k 0 := by
          by_cases h : xs = ys
          · exact .inr (by rw [h])
          · exact .inl (by simp [h])
        clear hc1 hc2 hz hbel e1 e2
        have i0 : (k : Int) < (xs.length : Int) := by omega
        have i1 : (k : Int) < (ys.length : Int) := by omega
        generalize hx1 : xs.getD k 0 = x1 at *
        generalize hy1 : ys.getD k 0 = y1 at *
        have HX : Hid (xs.getD k 0 = x1) := hx1
        have HY : Hid (ys.getD k 0 = y1) := hy1
        clear hx1 hy1
        by_cases hxy : x1 = y1
        · have hb : ((x1 : Int) != (y1 : Int)) = false := by simp [hxy]
          have HE : Hid (x1 = y1) := hxy
          clear hxe hxy
          go_wp2_with fail
          go_quiet (fail)
          go_wp2
          go_roundw
          case rel =>
            refine ⟨k + 1, by omega, by go_num, fun j hj => ?_, below_drewN HB.out _⟩
            by_cases hj' : j = k
            · rw [hj', HX.out, HY.out]; exact HE.out
            · exact HZ.out j (by omega)
          case measure => simp [intOf]; omega
        · have hb : ((x1 : Int) != (y1 : Int)) = true := by simp; omega
          have HE : Hid (decide (xs = ys) = false) := by
            rcases hxe with h | h
            · exact h
            · exact absurd h hxy
          clear hxe hxy
          go_wp2_with fail
          go_quiet (fail)
          go_wp2
          go_ret
          exact ⟨ret_bool HE.out.symm, below_drewN HB.out _⟩
      · clear hz hbel
        go_wp2
        go_ret
        refine ⟨ret_bool ?_, HB.out⟩
        have he : xs = ys := by
          refine List.ext_getElem HL.out fun j h1 h2 => ?_
          have := HZ.out j (by omega)
          simpa [List.getD, h1, h2] using this
        simp [he]
  · have hne : ((xs.length : Int) != (ys.length : Int)) = true := by simp; omega
    have hx : xs ≠ ys := fun h => hl (by rw [h])
    go_enter Try.func84, Try.ntmps84
    go_wp2
    go_ret
    exact ⟨ret_bool (by simp [hx]), Below.refl _ _⟩

theorem eqBits_any (V W : Int) (a b : Option Addr) (c d : Nat) (xs ys : List Nat) (w : World) (hr : Rd w a xs) (hs : Rd w b ys) :
    Calls Try.prog 60 #[.agg #[.int .i64 V, .slice a xs.length c], .agg #[.int .i64 W, .slice b ys.length d]] w fun e w' => e = .returned (.bool (decide (V = W ∧ xs = ys))) ∧ Below w.heap.size w w' := by
  have h2 : Below w.heap.size w ((w.alloc (Obj.cells #[Value.int IntKind.i64 V, Value.slice a xs.length c] 45)).alloc (Obj.cells #[Value.int IntKind.i64 W, Value.slice b ys.length d] 45)) := ((Below.refl _ _).alloc (Nat.le_refl _) _).alloc (by simp) _
  by_cases hV : V = W
  · have hne : (V != W) = false := by simp [hV]
    have HV : Hid (V = W) := hV
    clear hV
    have hr' := hr.later h2
    have hs' := hs.later h2
    cases he : decide (xs = ys) with
    | true =>
      have HE : Hid (decide (V = W ∧ xs = ys) = true) := by show _ = _; simp [HV.out]; simpa using he
      have H2 := show Hid _ from h2
      clear h2 hr hs
      go_enter Try.func60, Try.ntmps60
      go_wp2_with (go_at_call 84; refine (eqUint64S_any _ _ _ _ _ _ _ hr' hs').mono ?_; rintro e w' ⟨rfl, hb⟩)
      go_ret
      exact ⟨ret_bool HE.out.symm, H2.out.trans (hb.mono (by simp; omega))⟩
    | false =>
      have HE : Hid (decide (V = W ∧ xs = ys) = false) := by show _ = _; simp; intro _; simpa using he
      have H2 := show Hid _ from h2
      clear h2 hr hs
      go_enter Try.func60, Try.ntmps60
      go_wp2_with (go_at_call 84; refine (eqUint64S_any _ _ _ _ _ _ _ hr' hs').mono ?_; rintro e w' ⟨rfl, hb⟩)
      go_ret
      exact ⟨ret_bool HE.out.symm, H2.out.trans (hb.mono (by simp; omega))⟩
  · have hne : (V != W) = true := by simp [hV]
    clear hr hs
    go_enter Try.func60, Try.ntmps60
    go_wp2
    go_ret
    exact ⟨ret_bool (by simp [hV]), h2⟩

end Go.Proofs.Ytfanddpncipkkaa
