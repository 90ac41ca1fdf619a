/- Several texts in one. -/
import Derived.WalkKit
import Derived.Lib.BitFns
import Derived.Test.YtheglnkndjheaaaGreatDoorProg
import Derived.WalkSpells
import Derived.Deep.QuietTactic
import Derived.BigQuiet
import Derived.Outline
import Derived.WalkSmall
import Derived.Lib.Strings
import Derived.Lib.Slices
import Derived.Lib.Small
import Derived.Lib.Walk
import Derived.Maps.OwnSet
import Derived.Deep.OwnRows
import Derived.Deep.RegionHeld3

/- Plain facts on words of 64 bits as numbers: the bit at a place, what a right row is. No program in sight. -/
namespace Go.Proofs.YtheglnkndjheaaaGreatDoor
set_option linter.unusedVariables false
set_option linter.unusedSimpArgs false
open Go.RowKit

def wOk (W : Int) : Bool := decide (1 ≤ W ∧ W ≤ 4096)

/-- The bit i of a row of words of 64 bits. -/
def tb (xs : List Nat) (i : Nat) : Bool := (xs.getD (i / 64) 0).testBit (i % 64)

theorem tb_div (xs : List Nat) (i : Nat) : xs.getD (i / 64) 0 / 2 ^ (i % 64) % 2 = (tb xs i).toNat := by
  unfold tb
  rw [Nat.testBit_eq_decide_div_mod_eq]
  have := Nat.mod_two_eq_zero_or_one (xs.getD (i / 64) 0 / 2 ^ (i % 64))
  rcases this with h | h <;> rw [h] <;> rfl

/-- Nothing stands from the bit W on. -/
def clear (W : Int) (xs : List Nat) : Bool := (List.range (64 * xs.length)).all fun i => decide ((i : Int) < W) || !tb xs i

theorem clear_iff (W : Int) (xs : List Nat) : clear W xs = true ↔ ∀ i : Nat, W ≤ (i : Int) → i < 64 * xs.length → tb xs i = false := by
  unfold clear
  rw [List.all_eq_true]
  constructor
  · intro h i h1 h2
    have := h i (List.mem_range.2 h2)
    simp at this
    rcases this with h' | h'
    · omega
    · exact h'
  · intro h i hi
    have hi' := List.mem_range.1 hi
    by_cases h1 : (i : Int) < W
    · simp [h1]
    · simp [h i (by omega) hi']

def rightB (W : Int) (xs : List Nat) : Bool := wOk W && decide ((xs.length : Int) = (W + 63) / 64) && clear W xs

theorem rightB_no1 {W : Int} {xs : List Nat} (h : wOk W = false) : rightB W xs = false := by simp [rightB, h]
theorem rightB_no2 {W : Int} {xs : List Nat} (h : ¬ (xs.length : Int) = (W + 63) / 64) : rightB W xs = false := by simp [rightB, h]
theorem rightB_clear {W : Int} {xs : List Nat} (h : wOk W = true) (h2 : (xs.length : Int) = (W + 63) / 64) : rightB W xs = clear W xs := by simp [rightB, h, h2]

/-- The last word alone tells whether a row of just enough words is clear from W on. -/
theorem clear_last {W : Int} {xs : List Nat} (hx : ∀ x ∈ xs, x < 18446744073709551616) (hw : wOk W = true) (hl : (xs.length : Int) = (W + 63) / 64) :
    clear W xs = decide (64 * ((xs.length : Int) - 1) + (Lib.bitLen (xs.getD (xs.length - 1) 0) : Int) ≤ W) := by
  have hW : 1 ≤ W ∧ W ≤ 4096 := by simpa [wOk] using hw
  have hpos : 0 < xs.length := by omega
  have hlast : xs.getD (xs.length - 1) 0 < 18446744073709551616 := by
    have e : xs.getD (xs.length - 1) 0 = xs[xs.length - 1]'(by omega) := by simp [List.getD, show xs.length - 1 < xs.length by omega]
    rw [e]; exact hx _ (List.getElem_mem _)
  obtain ⟨r, hr⟩ : ∃ r : Nat, (r : Int) = W - 64 * ((xs.length : Int) - 1) := ⟨(W - 64 * ((xs.length : Int) - 1)).toNat, by omega⟩
  have hr64 : r ≤ 64 := by omega
  generalize hy : xs.getD (xs.length - 1) 0 = y at hlast ⊢
  have key : Lib.bitLen y ≤ r ↔ clear W xs = true := by
    have hb : Lib.bitLen y ≤ r ↔ y < 2 ^ r := by
      refine ⟨fun h => ?_, Lib.bitLen_le y r hr64⟩
      rcases Nat.lt_or_ge y (2 ^ r) with h' | h'
      · exact h'
      · have s := Lib.bitLen_shift r y h' hlast
        have hp : 0 < y / 2 ^ r := Nat.div_pos h' (Nat.two_pow_pos r)
        have hh := Lib.bitLen_half (y / 2 ^ r) (by omega) (Nat.lt_of_le_of_lt (Nat.div_le_self _ _) hlast)
        omega
    rw [hb, clear_iff]
    constructor
    · intro h i h1 h2
      have e1 : i / 64 = xs.length - 1 := by omega
      unfold tb
      rw [e1, hy]
      refine Nat.testBit_lt_two_pow (Nat.lt_of_lt_of_le h (Nat.pow_le_pow_right (by omega) (by omega)))
    · intro h
      refine Nat.lt_pow_two_of_testBit y fun j hj => ?_
      by_cases h64 : j < 64
      · have := h (64 * (xs.length - 1) + j) (by omega) (by omega)
        unfold tb at this
        rw [show (64 * (xs.length - 1) + j) / 64 = xs.length - 1 by omega, show (64 * (xs.length - 1) + j) % 64 = j by omega, hy] at this
        exact this
      · exact Nat.testBit_lt_two_pow (Nat.lt_of_lt_of_le hlast (show 2 ^ 64 ≤ 2 ^ j from Nat.pow_le_pow_right (by omega) (by omega)))
  by_cases h : Lib.bitLen y ≤ r
  · rw [key.1 h]; symm; simp; omega
  · have : clear W xs = false := by
      cases hc : clear W xs with
      | false => rfl
      | true => exact absurd (key.2 hc) h
    rw [this]; symm; simp; omega

end Go.Proofs.YtheglnkndjheaaaGreatDoor

/- Contracts of the smallest functions of the words of bits: widthOk, wordsFor, l1In, l1Bit. -/
namespace Go.Proofs.YtheglnkndjheaaaGreatDoor
set_option linter.unusedVariables false
set_option linter.unusedSimpArgs false
open Go.RowKit

theorem widthOk_any (W : Int) (w : World) :
    Calls Tryz.prog 70 #[.int .i64 W] w fun e w' => e = .returned (.bool (wOk W)) ∧ w' = w := by
  by_cases h1 : 1 ≤ W
  · by_cases h2 : W ≤ 4096
    · go_enter Tryz.func70, Tryz.ntmps70
      go_wp2
      go_ret
      exact ⟨by simp [wOk, h1, h2], rfl⟩
    · go_enter Tryz.func70, Tryz.ntmps70
      go_wp2
      go_ret
      exact ⟨by simp [wOk, h1, h2], rfl⟩
  · go_enter Tryz.func70, Tryz.ntmps70
    go_wp2
    go_ret
    exact ⟨by simp [wOk]; omega, rfl⟩

theorem wordsFor_any (W : Int) (h0 : 1 ≤ W) (h1 : W ≤ 4096) (w : World) :
    Calls Tryz.prog 144 #[.int .i64 W] w fun e w' => e = .returned (.int .i64 ((W + 63) / 64)) ∧ w' = w := by
  have e : (W + 64 - 1) / 64 = (W + 63) / 64 := by omega
  go_enter Tryz.func144, Tryz.ntmps144
  go_wp2
  go_ret
  exact ⟨by simp [e], rfl⟩

/-- A slice whose words are xs, wherever it lies. -/
def Rd (w : World) (a : Option Addr) (xs : List Nat) : Prop :=
  xs.length ≤ 1048576 ∧ (∀ x ∈ xs, x < 18446744073709551616) ∧ (xs = [] ∨ ∃ b o, a = some ⟨b, o, none⟩ ∧ ∀ i, i < xs.length → w.cell? ⟨b, o + i, none⟩ = some (.int .u64 ((xs.getD i 0 : Nat) : Int)))

theorem Rd.later {w w' : World} {a : Option Addr} {xs : List Nat} (h : Rd w a xs) (hb : Below w.heap.size w w') : Rd w' a xs := by
  obtain ⟨h1, h2, h3⟩ := h
  refine ⟨h1, h2, ?_⟩
  rcases h3 with h3 | ⟨b, o, rfl, hc⟩
  · exact .inl h3
  · refine .inr ⟨b, o, rfl, fun i hi => ?_⟩
    have := hc i hi
    rw [hb.cell (p := ⟨b, o + i, none⟩) (by exact block_lt_of_cell this)]
    exact this

theorem andOne (y k : Nat) (h : y < 18446744073709551616) : bits BinOp.and IntKind.u64 ((y : Int) / 2 ^ k) 1 % 256 = ((y / 2 ^ k % 2 : Nat) : Int) := by
  have e : ((y : Int) / 2 ^ k) = ((y / 2 ^ k : Nat) : Int) := by simp
  have hlt : y / 2 ^ k < 18446744073709551616 := Nat.lt_of_le_of_lt (Nat.div_le_self _ _) h
  rw [e, and_one_u64 _ (Int.natCast_nonneg _) (by omega)]
  omega

theorem l1In_any (n l h : Int) (w : World) :
    Calls Tryz.prog 49 #[.int .i64 n, .int .i64 l, .int .i64 h] w fun e w' => e = .returned (.bool (decide (l ≤ n ∧ n ≤ h))) ∧ w' = w := by
  by_cases h1 : l ≤ n
  · by_cases h2 : n ≤ h
    · go_enter Tryz.func49, Tryz.ntmps49
      go_wp2
      go_ret
      exact ⟨by simp [h1, h2], rfl⟩
    · go_enter Tryz.func49, Tryz.ntmps49
      go_wp2
      go_ret
      exact ⟨by simp [h1, h2], rfl⟩
  · go_enter Tryz.func49, Tryz.ntmps49
    go_wp2
    go_ret
    exact ⟨by simp; omega, rfl⟩

theorem l1Bit_any (W : Int) (a : Option Addr) (c : Nat) (xs : List Nat) (i : Nat) (w : World) (hr : Rd w a xs) (hi : i < 64 * xs.length) :
    Calls Tryz.prog 118 #[.agg #[.int .i64 W, .slice a xs.length c], .int .i64 i] w fun e w' => e = .returned (.int .u8 (((tb xs i).toNat : Nat) : Int)) ∧ Below w.heap.size w w' := by
  obtain ⟨hl, hx, h | ⟨b, o, rfl, hc⟩⟩ := hr
  · subst h; simp at hi
  have hcell := hc (i / 64) (by omega)
  have hb : b < w.heap.size := block_lt_of_cell hcell
  have htb := tb_div xs i
  have hlt : xs.getD (i / 64) 0 < 18446744073709551616 := by
    have e : xs.getD (i / 64) 0 = xs[i / 64]'(by omega) := by simp [List.getD, show i / 64 < xs.length by omega]
    rw [e]; exact hx _ (List.getElem_mem _)
  generalize hy : xs.getD (i / 64) 0 = y at hcell htb hlt
  generalize (tb xs i).toNat = t at htb ⊢
  have Hb : Hid (bits BinOp.and IntKind.u64 ((y : Int) / 2 ^ (i % 64)) 1 % 256 = (t : Int)) := by rw [andOne y _ hlt, htb]; rfl
  clear hc hx hy hlt htb
  go_enter Tryz.func118, Tryz.ntmps118
  go_wp2
  go_ret
  exact ⟨by simp [Hb.out], (Below.refl _ _).alloc (Nat.le_refl _) _⟩

end Go.Proofs.YtheglnkndjheaaaGreatDoor

/- What math/bits.Len64 answers: how many bits a word needs. -/
namespace Go.Proofs.YtheglnkndjheaaaGreatDoor
set_option linter.unusedVariables false
set_option linter.unusedSimpArgs false
open Go.RowKit

theorem tabSize : Lib.len8tab.size = 256 := by decide +kernel
theorem tabAll : ∀ n : Fin 256, (Lib.len8tab[n.val]'(by rw [tabSize]; exact n.isLt)).toNat = Lib.bitLen n.val := by decide +kernel
theorem tabAt (n : Nat) (h : n < Lib.len8tab.size) : (Lib.len8tab[n]'h).toNat = Lib.bitLen n := tabAll ⟨n, by rw [tabSize] at h; exact h⟩
theorem bl_le8 (n : Nat) (h : n < 256) : Lib.bitLen n ≤ 8 := Lib.bitLen_le n 8 (by omega) h

theorem bl_le (x k : Nat) (hk : k ≤ 64) (hx : x < 2 ^ 64) : Lib.bitLen x ≤ k ↔ x < 2 ^ k := by
  refine ⟨fun h => ?_, Lib.bitLen_le x k hk⟩
  rcases Nat.lt_or_ge x (2 ^ k) with h' | h'
  · exact h'
  · have s := Lib.bitLen_shift k x h' hx
    have hp : 0 < x / 2 ^ k := Nat.div_pos h' (Nat.two_pow_pos k)
    have h0 : Lib.bitLen (x / 2 ^ k) = 0 := by omega
    have hh := Lib.bitLen_half (x / 2 ^ k) (by omega) (Nat.lt_of_le_of_lt (Nat.div_le_self _ _) hx)
    omega

theorem w64 (n : Int) (h : -9223372036854775808 ≤ n ∧ n ≤ 9223372036854775807) : wrap64 n = n := by unfold wrap64; omega

theorem bl_wrap (a : Int) (k x n : Nat) (hn : n < Lib.len8tab.size) (hk : k ≤ 56) (ha : a = (k : Int)) (hx : x < 2 ^ 64) (hx' : 2 ^ k ≤ x) (hnx : n = x / 2 ^ k) :
    wrap64 (a + wrap64 ((Lib.len8tab[n]'hn).toNat : Int)) = ((Lib.bitLen x : Nat) : Int) := by
  have e := tabAt n hn
  have l := bl_le8 n (by rw [tabSize] at hn; exact hn)
  have s := Lib.bitLen_shift k x hx' hx
  rw [← hnx] at s
  subst ha
  rw [e, w64 (Lib.bitLen n : Int) (by omega), w64 _ (by omega)]
  omega
theorem bl_wrap0 (x : Nat) (hn : x < Lib.len8tab.size) : wrap64 (wrap64 ((Lib.len8tab[x]'hn).toNat : Int)) = ((Lib.bitLen x : Nat) : Int) := by
  have e := tabAt x hn
  have l := bl_le8 x (by rw [tabSize] at hn; exact hn)
  rw [e, w64 (Lib.bitLen x : Int) (by omega), w64 _ (by omega)]

set_option maxHeartbeats 1000000 in
set_option maxRecDepth 100000 in
theorem len64_int (x : Int) (w : World) (h0 : 0 ≤ x) (h1 : x ≤ 18446744073709551615) :
    Calls Tryz.prog 102 #[.int .u64 x] w fun e w' => e = .returned (.int .i64 ((Lib.bitLen x.toNat : Nat) : Int)) ∧ w' = w := by
  have hs : (Lib.len8tab.size : Int) = 256 := by rw [tabSize]; rfl
  go_enter Tryz.func102, Tryz.ntmps102
  go_wp2
  all_goals (go_ret; refine ⟨congrArg Ending.returned (congrArg (Value.int IntKind.i64) ?_), rfl⟩)
  · exact bl_wrap _ 56 x.toNat _ _ (by omega) rfl (by omega) (by omega) (by omega)
  · exact bl_wrap _ 48 x.toNat _ _ (by omega) rfl (by omega) (by omega) (by omega)
  · exact bl_wrap _ 40 x.toNat _ _ (by omega) rfl (by omega) (by omega) (by omega)
  · exact bl_wrap _ 32 x.toNat _ _ (by omega) rfl (by omega) (by omega) (by omega)
  · exact bl_wrap _ 24 x.toNat _ _ (by omega) rfl (by omega) (by omega) (by omega)
  · exact bl_wrap _ 16 x.toNat _ _ (by omega) rfl (by omega) (by omega) (by omega)
  · exact bl_wrap _ 8 x.toNat _ _ (by omega) rfl (by omega) (by omega) (by omega)
  · exact bl_wrap0 x.toNat _

theorem len64_any (x : Nat) (w : World) (hx : x < 18446744073709551616) :
    Calls Tryz.prog 102 #[.int .u64 x] w fun e w' => e = .returned (.int .i64 ((Lib.bitLen x : Nat) : Int)) ∧ w' = w := by
  have := len64_int x w (by omega) (by omega)
  rwa [Int.toNat_natCast] at this

end Go.Proofs.YtheglnkndjheaaaGreatDoor

/- What the two BitsOk answer: both say just of right rows that they are right. -/
namespace Go.Proofs.YtheglnkndjheaaaGreatDoor
set_option linter.unusedVariables false
set_option linter.unusedSimpArgs false
open Go.RowKit

theorem decide_wOk (W : Int) : decide (1 ≤ W ∧ W ≤ 4096) = wOk W := rfl

theorem ret_bool {a b : Bool} (h : a = b) : Ending.returned (.bool a) = .returned (.bool b) := by rw [h]
theorem ret_int {k : IntKind} {a b : Int} (h : a = b) : Ending.returned (.int k a) = .returned (.int k b) := by rw [h]

theorem implOk_any (W : Int) (a : Option Addr) (c : Nat) (xs : List Nat) (w : World) (hr : Rd w a xs) :
    Calls Tryz.prog 143 #[.agg #[.int .i64 W, .slice a xs.length c]] w fun e w' => e = .returned (.bool (rightB W xs)) ∧ Below w.heap.size w w' := by
  cases hw : wOk W with
  | false =>
    rw [rightB_no1 hw]
    go_enter Tryz.func143, Tryz.ntmps143
    go_wp2_with fail
    go_quiet ((go_at_call 70; exact Calls.quiet_of_same (widthOk_any _ _)))
    go_wp2
    go_ret
    exact ⟨rfl, below_drewN ((Below.refl _ _).alloc (Nat.le_refl _) _) _⟩
  | true =>
    have hW : 1 ≤ W ∧ W ≤ 4096 := by simpa [wOk] using hw
    by_cases hl : (xs.length : Int) = (W + 63) / 64
    · rw [rightB_clear hw hl, clear_last hr.2.1 hw hl]
      obtain ⟨h1, hx, h | ⟨b, o, rfl, hc⟩⟩ := hr
      · subst h; simp at hl; omega
      have hpos : 0 < xs.length := by omega
      have hcell := hc (xs.length - 1) (by omega)
      have hlt : xs.getD (xs.length - 1) 0 < 18446744073709551616 := by
        have e : xs.getD (xs.length - 1) 0 = xs[xs.length - 1]'(by omega) := by simp [List.getD, show xs.length - 1 < xs.length by omega]
        rw [e]; exact hx _ (List.getElem_mem _)
      have hblk : b < w.heap.size := block_lt_of_cell hcell
      have hne : ((xs.length : Int) != (W + 63) / 64) = false := by simp [hl]
      have hbl : Lib.bitLen (xs.getD (xs.length - 1) 0) ≤ 64 := Lib.bitLen_le _ 64 (by omega) hlt
      generalize xs.getD (xs.length - 1) 0 = y at *
      generalize hn : xs.length = n at *
      clear hc hx hn
      obtain ⟨hW1, hW2⟩ := hW
      have hn64 : n ≤ 64 := by omega
      clear hl
      obtain ⟨m, rfl⟩ : ∃ m, n = m + 1 := ⟨n - 1, by omega⟩
      simp only [Nat.add_sub_cancel] at hcell
      have hi0 : (0 : Int) ≤ (m : Int) := by omega
      have hi1 : (m : Int) < (m : Int) + 1 := by omega
      go_enter Tryz.func143, Tryz.ntmps143
      go_wp2_with fail
      go_quiet ((first | (go_at_call 70; exact Calls.quiet_of_same (widthOk_any _ _)) | (go_at_call 144; exact Calls.quiet_of_same (wordsFor_any _ hW1 hW2 _))))
      go_wp2_with fail
      go_quiet ((go_at_call 102; refine (len64_any _ _ hlt).mono ?_; rintro e w' ⟨rfl, rfl⟩; exact ⟨rfl, _, rfl⟩))
      go_wp2
      go_ret
      exact ⟨ret_bool (by rw [Bool.eq_iff_iff]; simp; omega), below_drewN (below_drewN ((Below.refl _ _).alloc (Nat.le_refl _) _) _) _⟩
    · rw [rightB_no2 hl]
      have hne : ((xs.length : Int) != (W + 63) / 64) = true := by simp [hl]
      obtain ⟨hW1, hW2⟩ := hW
      have h1 := hr.1
      clear hl hr
      go_enter Tryz.func143, Tryz.ntmps143
      go_wp2_with fail
      go_quiet ((first | (go_at_call 70; exact Calls.quiet_of_same (widthOk_any _ _)) | (go_at_call 144; exact Calls.quiet_of_same (wordsFor_any _ hW1 hW2 _))))
      go_wp2
      go_ret
      exact ⟨rfl, below_drewN ((Below.refl _ _).alloc (Nat.le_refl _) _) _⟩

theorem specOk_any (W : Int) (a : Option Addr) (c : Nat) (xs : List Nat) (w : World) (hr : Rd w a xs) :
    Calls Tryz.prog 107 #[.agg #[.int .i64 W, .slice a xs.length c]] w fun e w' => e = .returned (.bool (rightB W xs)) ∧ Below w.heap.size w w' := by
  have hlen := hr.1
  cases hw : wOk W with
  | false =>
    rw [rightB_no1 hw]
    clear hr
    have hd : decide (1 ≤ W ∧ W ≤ 4096) = false := hw
    go_enter Tryz.func107, Tryz.ntmps107
    go_wp2_with (go_at_call 49; refine (l1In_any _ _ _ _).mono ?_; rintro e w' ⟨rfl, rfl⟩)
    go_ret
    exact ⟨rfl, (Below.refl _ _).alloc (Nat.le_refl _) _⟩
  | true =>
    have hd : decide (1 ≤ W ∧ W ≤ 4096) = true := hw
    have hW : 1 ≤ W ∧ W ≤ 4096 := by simpa [wOk] using hw
    obtain ⟨hW1, hW2⟩ := hW
    by_cases hl : (xs.length : Int) = (W + 63) / 64
    · rw [rightB_clear hw hl]
      have hne : ((xs.length : Int) != (W + 63) / 64) = false := by simp [hl]
      have hcl := clear_iff W xs
      generalize hcv : clear W xs = cv at hcl ⊢
      have Hcl := show Hid _ from hcl
      have HL : Hid ((xs.length : Int) = (W + 63) / 64) := hl
      clear hcl hl hcv
      obtain ⟨V, rfl⟩ := Int.eq_ofNat_of_zero_le (show 0 ≤ W by omega)
      go_enter Tryz.func107, Tryz.ntmps107
      go_wp2_with (go_at_call 49; refine (l1In_any _ _ _ _).mono ?_; rintro e w' ⟨rfl, rfl⟩)
      clear hne
      go_loopw [3] (fun i wr => ∃ k : Nat, V ≤ k ∧ k ≤ 64 * xs.length ∧ i = .int .i64 k ∧ (∀ j : Nat, V ≤ j → j < k → tb xs j = false) ∧ Below (w.heap.size + 1) (w.alloc (Obj.cells #[Value.int IntKind.i64 V, Value.slice a xs.length c] 102)) wr) (fun i _ => 64 * xs.length - (intOf i).toNat)
      case atStart => exact ⟨V, Nat.le_refl _, by have := HL.out; omega, rfl, fun j h1 h2 => by omega, Below.refl _ _⟩
      case round =>
        obtain ⟨k, hk1, hk2, rfl, hz, hbel⟩ := hrel
        have HZ : Hid (∀ j : Nat, V ≤ j → j < k → tb xs j = false) := hz
        have hc0 : wr.cell? ⟨w.heap.size, 0, none⟩ = some (Value.int IntKind.i64 V) := by rw [hbel.cell (by simp)]; simp
        have hc1 : wr.cell? ⟨w.heap.size, 1, none⟩ = some (Value.slice a xs.length c) := by rw [hbel.cell (by simp)]; simp
        have hsz := hbel.size
        simp at hsz
        have hr' : Rd wr a xs := (hr.later ((Below.refl _ _).alloc (Nat.le_refl _) _)).later (hbel.mono (by simp))
        have HB := show Hid _ from hbel
        clear hz hbel hr
        by_cases hlt : k < 64 * xs.length
        · cases htb : tb xs k with
          | true =>
            go_wp2_with (go_at_call 118; refine (l1Bit_any _ _ _ _ _ _ hr' hlt).mono ?_; rintro e w1 ⟨rfl, hb1⟩)
            go_ret
            refine ⟨ret_bool ?_, ((((Below.refl _ _).alloc (Nat.le_refl _) _).trans (HB.out.mono (Nat.le_succ _))).trans (hb1.mono (by omega)))⟩
            cases cv with
            | false => rfl
            | true => exact absurd (Hcl.out.1 rfl k (by omega) hlt) (by simp [htb])
          | false =>
            go_wp2_with (go_at_call 118; refine (l1Bit_any _ _ _ _ _ _ hr' hlt).mono ?_; rintro e w1 ⟨rfl, hb1⟩)
            go_roundw
            case rel =>
              refine ⟨k + 1, by omega, by omega, by go_num, fun j h1 h2 => ?_, HB.out.trans (hb1.mono (by omega))⟩
              by_cases hj : j = k
              · rw [hj]; exact htb
              · exact HZ.out j h1 (by omega)
            case measure => simp [intOf]; omega
        · go_wp2
          go_ret
          refine ⟨ret_bool ?_, ((Below.refl _ _).alloc (Nat.le_refl _) _).trans (HB.out.mono (Nat.le_succ _))⟩
          exact (Hcl.out.2 fun j h1 h2 => HZ.out j (by omega) (by omega)).symm
    · rw [rightB_no2 hl]
      have hne : ((xs.length : Int) != (W + 63) / 64) = true := by simp [hl]
      clear hl hr
      go_enter Tryz.func107, Tryz.ntmps107
      go_wp2_with (go_at_call 49; refine (l1In_any _ _ _ _).mono ?_; rintro e w' ⟨rfl, rfl⟩)
      go_ret
      exact ⟨rfl, (Below.refl _ _).alloc (Nat.le_refl _) _⟩

end Go.Proofs.YtheglnkndjheaaaGreatDoor

/- Plain facts on trees as lists of nodes: walked from the root down, and node by node with a stack of open lists. No program in sight. -/
namespace Go.Proofs.YtheglnkndjheaaaGreatDoor
set_option linter.unusedVariables false
set_option linter.unusedSimpArgs false
open Go.RowKit

/-- The byte at a place of a text. -/
def bn (s : ByteArray) (k : Nat) : Nat := if h : k < s.size then (s[k]'h).toNat else 0
theorem get_bn (s : ByteArray) : ∀ (n : Nat) (h : n < s.size), (s[n]'h).toNat = bn s n := fun n h => by unfold bn; rw [dif_pos h]
theorem bn_lt (s : ByteArray) (k : Nat) : bn s k < 256 := by
  unfold bn; split
  · exact UInt8.toNat_lt _
  · omega

/-- A byte that may stand in an atom. -/
def atomB (c : Nat) : Bool := decide (33 ≤ c) && decide (c ≤ 126) && !decide (c = 40) && !decide (c = 41) && !decide (c = 59)

def allAtom (s : ByteArray) : Bool := (List.range s.size).all fun i => atomB (bn s i)

theorem allAtom_iff (s : ByteArray) : allAtom s = true ↔ ∀ i, i < s.size → atomB (bn s i) = true := by
  unfold allAtom
  rw [List.all_eq_true]
  exact ⟨fun h i hi => h i (List.mem_range.2 hi), fun h i hi => h i (List.mem_range.1 hi)⟩

/-- A node: its text, its kids. -/
abbrev Ct := ByteArray × List Int

def okC (n : Ct) : Bool := decide (n.1.size = 0) || (allAtom n.1 && n.2.isEmpty)

/-- All kids of a list, one behind the other: the place behind them, the deepest one. -/
def WL (len : Nat) (rec : Nat → Option (Nat × Nat)) : List Int → Nat → Option (Nat × Nat)
  | [], nx => some (nx, 0)
  | k :: ks, nx => if k ≠ (nx : Int) ∨ len ≤ nx then none else
      match rec nx with
      | none => none
      | some (nx', d) => match WL len rec ks nx' with
        | none => none
        | some (e, d') => some (e, max d d')

/-- The place behind all that is below a node, and its depth. -/
def W (ns : List Ct) : Nat → Nat → Nat → Option (Nat × Nat)
  | 0, _, _ => none
  | f + 1, p, deep =>
    if 100 < deep ∨ okC (ns.getD p (.empty, [])) = false then none else
      match WL ns.length (fun nx => W ns f nx (deep + 1)) (ns.getD p (.empty, [])).2 (p + 1) with
      | none => none
      | some (e, d) => some (e, if (ns.getD p (.empty, [])).1.size = 0 then d + 1 else 0)

theorem WL_le {len : Nat} {rec : Nat → Option (Nat × Nat)} (hrec : ∀ nx e d, nx < len → rec nx = some (e, d) → nx < e ∧ e ≤ len) {ks : List Int} {nx e d : Nat} (hnx : nx ≤ len) (h : WL len rec ks nx = some (e, d)) : nx ≤ e ∧ e ≤ len := by
  induction ks generalizing nx e d with
  | nil => simp [WL] at h; omega
  | cons k ks ih =>
    rw [WL] at h
    split at h
    · cases h
    · rename_i hc
      have hc' : nx < len := by omega
      cases hr : rec nx with
      | none => rw [hr] at h; cases h
      | some q =>
        obtain ⟨nx', d1⟩ := q
        rw [hr] at h
        cases hl : WL len rec ks nx' with
        | none => simp [hl] at h
        | some q2 =>
          obtain ⟨e2, d2⟩ := q2
          simp [hl] at h
          obtain ⟨rfl, rfl⟩ := h
          have h1 := hrec nx nx' d1 hc' hr
          have h2 := ih (by omega) hl
          omega

theorem W_le {ns : List Ct} {f p deep e d : Nat} (hp : p < ns.length) (h : W ns f p deep = some (e, d)) : p < e ∧ e ≤ ns.length := by
  induction f generalizing p deep e d with
  | zero => simp [W] at h
  | succ f ih =>
    rw [W] at h
    split at h
    · cases h
    · cases hl : WL ns.length (fun nx => W ns f nx (deep + 1)) (ns.getD p (.empty, [])).2 (p + 1) with
      | none => rw [hl] at h; cases h
      | some q =>
        obtain ⟨e2, d2⟩ := q
        rw [hl] at h
        simp at h
        obtain ⟨rfl, -⟩ := h
        have := WL_le (fun nx e d hnx hr => ih hnx hr) (by omega) hl
        omega

/-- Lists that lack no kid any more fall off the top. -/
def dropF : List (List Int × Nat) → List (List Int × Nat)
  | [] => []
  | x :: r => if x.2 = x.1.length then dropF r else x :: r

def body (n : Ct) (st : List (List Int × Nat)) (dp : Nat) (K : List (List Int × Nat) → Nat → Option Nat) : Option Nat :=
  if 100 < st.length ∨ okC n = false then none
  else if n.1.size = 0 then K ((n.2, 0) :: st) (max dp (st.length + 1)) else K st (max dp st.length)

/-- Node by node: r nodes are left, from p on. -/
def M (ns : List Ct) : Nat → Nat → List (List Int × Nat) → Nat → Option Nat
  | 0, _, st, dp => if dropF st = [] then some dp else none
  | r + 1, p, st, dp => match dropF st with
    | [] => none
    | x :: t => if x.1.getD x.2 0 ≠ (p : Int) then none else body (ns.getD p (.empty, [])) ((x.1, x.2 + 1) :: t) dp (M ns r (p + 1))

theorem M_full (ns : List Ct) (r p : Nat) (ks : List Int) (st : List (List Int × Nat)) (dp : Nat) : M ns r p ((ks, ks.length) :: st) dp = M ns r p st dp := by
  cases r with
  | zero => simp [M, dropF]
  | succ r => simp only [M, dropF, if_pos]

theorem body_M {ns : List Ct} {f : Nat} : ∀ {p deep : Nat} {st : List (List Int × Nat)} {dp : Nat}, p < ns.length → ns.length - p ≤ f → st.length = deep →
    body (ns.getD p (.empty, [])) st dp (M ns (ns.length - (p + 1)) (p + 1)) = match W ns f p deep with | none => none | some (e, d) => M ns (ns.length - e) e st (max dp (deep + d)) := by
  induction f with
  | zero => intro p deep st dp h1 h2; omega
  | succ f ih =>
    intro p deep st dp hp hf hst
    subst hst
    rw [body, W]
    by_cases hc : 100 < st.length ∨ okC (ns.getD p (.empty, [])) = false
    · rw [if_pos hc, if_pos hc]
    rw [if_neg hc, if_neg hc]
    generalize hn : ns.getD p (.empty, []) = n at *
    have kids : ∀ (ks : List Int) (i nx dp : Nat), n.2.drop i = ks → i ≤ n.2.length → p < nx → nx ≤ ns.length → st.length + 1 ≤ dp →
        M ns (ns.length - nx) nx ((n.2, i) :: st) dp = match WL ns.length (fun nx => W ns f nx (st.length + 1)) ks nx with | none => none | some (e, d) => M ns (ns.length - e) e st (max dp (st.length + 1 + d)) := by
      intro ks
      induction ks with
      | nil =>
        intro i nx dp hd hi hnx hle hdp
        have hi' : i = n.2.length := by
          have := congrArg List.length hd
          simp at this; omega
        subst hi'
        rw [M_full]
        simp [WL, Nat.max_eq_left hdp]
      | cons k ks ihk =>
        intro i nx dp hd hi hnx hle hdp
        have hil : i < n.2.length := by
          have := congrArg List.length hd
          simp at this; omega
        have hg : n.2.getD i 0 = k := by
          have := congrArg (fun l => l.getD 0 0) hd
          simpa [List.getD] using this
        have hd' : n.2.drop (i + 1) = ks := by
          have := congrArg List.tail hd
          simpa using this
        have hdrop : dropF ((n.2, i) :: st) = (n.2, i) :: st := by
          rw [dropF, if_neg]; simp; omega
        rw [WL]
        by_cases hlen : ns.length ≤ nx
        · rw [if_pos (.inr hlen), show ns.length - nx = 0 by omega, M, hdrop]
          simp
        · obtain ⟨r, hr⟩ : ∃ r, ns.length - nx = r + 1 := ⟨ns.length - nx - 1, by omega⟩
          rw [hr, M, hdrop]
          simp only [hg]
          by_cases hk : k ≠ (nx : Int)
          · rw [if_pos hk, if_pos (.inl hk)]
          · rw [if_neg hk, if_neg (by omega)]
            have hr' : r = ns.length - (nx + 1) := by omega
            rw [hr']
            rw [ih (p := nx) (deep := st.length + 1) (st := (n.2, i + 1) :: st) (by omega) (by omega) (by simp)]
            cases hw : W ns f nx (st.length + 1) with
            | none => rfl
            | some q =>
              obtain ⟨e, d⟩ := q
              simp only []
              have hle2 := W_le (by omega) hw
              rw [ihk (i + 1) e (max dp (st.length + 1 + d)) hd' (by omega) (by omega) hle2.2 (by omega)]
              cases WL ns.length (fun nx => W ns f nx (st.length + 1)) ks e with
              | none => rfl
              | some q2 =>
                obtain ⟨e2, d2⟩ := q2
                simp only []
                congr 1
                omega
    by_cases hz : n.1.size = 0
    · rw [if_pos hz]
      rw [kids n.2 0 (p + 1) _ (by simp) (by omega) (by omega) (by omega) (by omega)]
      cases WL ns.length (fun nx => W ns f nx (st.length + 1)) n.2 (p + 1) with
      | none => rfl
      | some q =>
        obtain ⟨e, d⟩ := q
        simp only [hz, if_true]
        congr 1
        omega
    · have he : n.2 = [] := by
        have : ¬ okC n = false := fun h => hc (.inr h)
        simp [okC, hz] at this
        exact this.2
      rw [if_neg hz, he, WL]
      simp [hz]

/-- What a tree's depth is; -1 of one that is not right. -/
def depR (ns : List Ct) : Int :=
  if 1 ≤ ns.length ∧ ns.length ≤ 2000 then
    match W ns ns.length 0 0 with
    | none => -1
    | some (e, d) => if e = ns.length then (d : Int) else -1
  else -1

theorem depR_M (ns : List Ct) (h : 1 ≤ ns.length ∧ ns.length ≤ 2000) : depR ns = match body (ns.getD 0 (.empty, [])) [] 0 (M ns (ns.length - 1) 1) with | none => -1 | some d => (d : Int) := by
  have := body_M (ns := ns) (f := ns.length) (p := 0) (deep := 0) (st := []) (dp := 0) (by omega) (by omega) rfl
  rw [Nat.zero_add] at this
  rw [this, depR, if_pos h]
  cases hw : W ns ns.length 0 0 with
  | none => rfl
  | some q =>
    obtain ⟨e, d⟩ := q
    simp only []
    have hle := W_le (by omega) hw
    by_cases he : e = ns.length
    · subst he
      rw [if_pos rfl, Nat.sub_self, M]
      simp [dropF]
    · rw [if_neg he]
      obtain ⟨r, hr⟩ : ∃ r, ns.length - e = r + 1 := ⟨ns.length - e - 1, by omega⟩
      rw [hr, M]
      simp [dropF]

end Go.Proofs.YtheglnkndjheaaaGreatDoor

/- Declared variables as a plain list: names, widths, when they are right; and what a map from names to places holds. No program in sight. -/
namespace Go.Proofs.YtheglnkndjheaaaGreatDoor
set_option linter.unusedVariables false
set_option linter.unusedSimpArgs false
open Go.RowKit

def in64 (k : Int) : Prop := -9223372036854775808 ≤ k ∧ k ≤ 9223372036854775807

/-- A variable: its name, its width. -/
abbrev Dc := ByteArray × Int

def letB (c : Nat) : Bool := decide (97 ≤ c) && decide (c ≤ 122)
def digB (c : Nat) : Bool := decide (48 ≤ c) && decide (c ≤ 57)
def nmB (c : Nat) : Bool := letB c || digB c

def allNm (s : ByteArray) : Bool := (List.range s.size).all fun i => nmB (bn s i)
theorem allNm_iff (s : ByteArray) : allNm s = true ↔ ∀ i, i < s.size → nmB (bn s i) = true := by
  unfold allNm
  rw [List.all_eq_true]
  exact ⟨fun h i hi => h i (List.mem_range.2 hi), fun h i hi => h i (List.mem_range.1 hi)⟩

def nmOk (s : ByteArray) : Bool := decide (1 ≤ s.size) && decide (s.size ≤ 12) && letB (bn s 0) && allNm s
def dcOk (d : Dc) : Bool := nmOk d.1 && wOk d.2

def sumW : List Dc → Int
  | [] => 0
  | d :: ds => d.2 + sumW ds

theorem sumW_append (xs ys : List Dc) : sumW (xs ++ ys) = sumW xs + sumW ys := by
  induction xs with
  | nil => simp [sumW]
  | cons x xs ih => simp [sumW, ih]; omega

theorem sumW_take {ds : List Dc} {k : Nat} {d : Dc} (h : ds[k]? = some d) : sumW (ds.take (k + 1)) = sumW (ds.take k) + d.2 := by
  rw [List.take_add_one, h, sumW_append]
  simp [sumW]

theorem dcOk_iff {d : Dc} : dcOk d = true ↔ nmOk d.1 = true ∧ 1 ≤ d.2 ∧ d.2 ≤ 4096 := by simp [dcOk, wOk]

theorem sumW_le {ds : List Dc} (h : ∀ d ∈ ds, dcOk d = true) : 0 ≤ sumW ds ∧ sumW ds ≤ 4096 * ds.length := by
  induction ds with
  | nil => simp [sumW]
  | cons d ds ih =>
    have h1 := (dcOk_iff.1 (h d (by simp))).2
    have h2 := ih fun x hx => h x (List.mem_cons_of_mem _ hx)
    simp [sumW]
    omega

/-- Are the variables right? -/
def dclR (ds : List Dc) : Bool := decide (ds.length ≤ 60) && ds.all dcOk && decide (sumW ds ≤ 20000) && decide ((ds.map Prod.fst).Nodup)

theorem dclR_iff {ds : List Dc} : dclR ds = true ↔ ds.length ≤ 60 ∧ (∀ d ∈ ds, dcOk d = true) ∧ sumW ds ≤ 20000 ∧ (ds.map Prod.fst).Nodup := by
  simp only [dclR, Bool.and_eq_true, decide_eq_true_eq, List.all_eq_true]
  constructor
  · rintro ⟨⟨⟨h1, h2⟩, h3⟩, h4⟩; exact ⟨h1, h2, h3, h4⟩
  · rintro ⟨h1, h2, h3, h4⟩; exact ⟨⟨⟨h1, h2⟩, h3⟩, h4⟩

theorem dclR_long {ds : List Dc} (h : 60 < ds.length) : dclR ds = false := by
  rw [Bool.eq_false_iff]; intro h'; have := (dclR_iff.1 h').1; omega
theorem dclR_bad {ds : List Dc} {k : Nat} {d : Dc} (h : ds[k]? = some d) (hd : dcOk d = false) : dclR ds = false := by
  rw [Bool.eq_false_iff]; intro h'
  have := (dclR_iff.1 h').2.1 d (List.mem_of_getElem? h)
  rw [hd] at this; cases this

/-- A text as the key of a map. -/
def kyOf (s : ByteArray) : Lit := .string s.data.toList
theorem kyOf_inj {s t : ByteArray} (h : kyOf s = kyOf t) : s = t := by
  unfold kyOf at h
  injection h with h
  exact ByteArray.ext (Array.toList_inj.1 h)
theorem kyOf_ne {s t : ByteArray} (h : s ≠ t) : kyOf s ≠ kyOf t := fun h' => h (kyOf_inj h')

/-- What a map tells of the names l, each put with its place: each once. -/
structure Pl (D : DataW Unit) (l : List ByteArray) : Prop where
  tidy : Maps.Tidy D
  has : ∀ s, Maps.has D (kyOf s) = true ↔ s ∈ l
  le : Maps.size D ≤ l.length
  nodup : Maps.size D = l.length ↔ l.Nodup
  at_ : l.Nodup → ∀ (i : Nat) s, l[i]? = some s → ∀ z, D.atKey (kyOf s) z = .lit (.int .i64 (i : Int))

theorem Pl.start : Pl (.map [] : DataW Unit) [] where
  tidy := Maps.tidy_empty
  has := fun s => by simp [Maps.has_eq]
  le := by simp [Maps.size_eq]
  nodup := by simp [Maps.size_eq]
  at_ := by simp

theorem Pl.step {D : DataW Unit} {l : List ByteArray} (h : Pl D l) (s : ByteArray) (hk : WideAt.IsKeyLit (kyOf s)) : Pl (D.put (kyOf s) (.lit (.int .i64 (l.length : Int)))) (l ++ [s]) where
  tidy := h.tidy.put hk _
  has := fun t => by
    by_cases e : t = s
    · subst e
      rw [Maps.has_put_same h.tidy.isMap hk]; simp
    · rw [Maps.has_put_other (kyOf_ne e), h.has]; simp [e]
  le := by
    rw [Maps.size_put h.tidy, List.length_append]
    have := h.le
    split <;> simp <;> omega
  nodup := by
    rw [Maps.size_put h.tidy, List.length_append, List.nodup_append]
    have hle := h.le
    have hn := h.nodup
    by_cases e : s ∈ l
    · rw [if_pos ((h.has s).2 e)]
      constructor
      · intro h'; simp at h'; omega
      · rintro ⟨-, -, h'⟩; exact absurd rfl (h' s e s (by simp))
    · rw [if_neg (fun h' => e ((h.has s).1 h'))]
      constructor
      · intro h'
        simp at h'
        refine ⟨hn.1 h', by simp, fun a ha b hb => ?_⟩
        simp at hb; subst hb
        intro e'; subst e'; exact e ha
      · rintro ⟨h1, -, -⟩
        have := hn.2 h1
        simp; exact this
  at_ := fun hnd i t ht z => by
    have hnd' := List.nodup_append.1 hnd
    rw [List.getElem?_append] at ht
    split at ht
    · rename_i hi
      have e : t ≠ s := hnd'.2.2 t (List.mem_of_getElem? ht) s (by simp)
      rw [Maps.atKey_put_other (kyOf_ne e), h.at_ hnd'.1 i t ht]
    · have hj := (List.getElem?_eq_some_iff.1 ht).1
      simp at hj
      have hil : i = l.length := by omega
      subst hil
      simp at ht
      subst ht
      rw [Maps.atKey_put_same h.tidy.isMap hk]

end Go.Proofs.YtheglnkndjheaaaGreatDoor

/- Small lemmas on worlds that every text uses. -/
namespace Go.Proofs.YtheglnkndjheaaaGreatDoor
set_option linter.unusedVariables false
set_option linter.unusedSimpArgs false
open Go.RowKit

theorem kide {p : Prop} (h : p) : Hid p := h
/-- Behind a call that lets all old blocks be: all old cells read as before. -/
theorem kcell {W w1 : World} (hb : Below W.heap.size W w1) (b o : Nat) (h : b < W.heap.size) : w1.cell? ⟨b, o, none⟩ = W.cell? ⟨b, o, none⟩ := hb.cell (p := ⟨b, o, none⟩) h
theorem kundrew {B : Nat} {w w' : World} (h : Below B w.drew w') : Below B w w' := ⟨h.os, h.tape, h.output, h.size, h.block⟩
theorem kstr_ne {s t : ByteArray} (h : s ≠ t) : (s.toList == t.toList) = false := by
  rw [ByteArray.toList_eq, ByteArray.toList_eq, beq_eq_false_iff_ne]
  intro e
  exact h (ByteArray.ext (Array.toList_inj.1 e))
theorem krow {w : World} {g : Nat} {c : Array Value} {t : TypeId} (h : w.heap[g]? = some (.cells c t (0, 0))) : w.rowIs g t c.size (fun i => (c[i]?).getD undef) :=
  ⟨c, h, rfl, fun i hi => by simp [hi]⟩

end Go.Proofs.YtheglnkndjheaaaGreatDoor

/- Contracts of the laws' own small functions on rows of words: how long, copied, compared, marked, held. -/
namespace Go.Proofs.YtheglnkndjheaaaGreatDoor
set_option linter.unusedVariables false
set_option linter.unusedSimpArgs false
open Go.RowKit

theorem Tryz.infoU64 : (Tryz.prog.info? 123).map (fun i => (i.zero, i.size, i.bytes)) = some (some (.int .u64 0), 1, 8) := by kernel_rfl

def u64s (xs : List Nat) : Array Value := (xs.map fun (x : Nat) => Value.int .u64 (x : Int)).toArray

theorem u64s_size (xs : List Nat) : (u64s xs).size = xs.length := by simp [u64s]
theorem u64s_get (xs : List Nat) (i : Nat) (h : i < xs.length) : (u64s xs)[i]? = some (.int .u64 ((xs.getD i 0 : Nat) : Int)) := by simp [u64s, List.getD, h]
theorem u64s_set (xs : List Nat) (i x : Nat) : (u64s xs).setIfInBounds i (.int .u64 (x : Int)) = u64s (xs.set i x) := by
  simp [u64s, List.setIfInBounds_toArray, List.map_set]
theorem u64s_made (n : Nat) : madeCells #[Value.int .u64 0] n = u64s (List.replicate n 0) := by
  apply Array.toList_inj.1
  rw [toList_madeCells_one]
  simp [u64s]

/-- The block g holds just the words xs, and may be written. -/
def Own (w : World) (g : Nat) (xs : List Nat) : Prop := w.heap[g]? = some (.cells (u64s xs) 123 (0, 0))

theorem Own.cell {w : World} {g : Nat} {xs : List Nat} (h : Own w g xs) {i : Nat} (hi : i < xs.length) : w.cell? ⟨g, i, none⟩ = some (.int .u64 ((xs.getD i 0 : Nat) : Int)) := by
  rw [cell_of_row w g i _ _ _ h, u64s_get _ _ hi]
theorem Own.free {w : World} {g : Nat} {xs : List Nat} (h : Own w g xs) (i : Nat) : w.frozen? ⟨g, i, none⟩ = false := frozen_of_row w g i _ _ h
theorem Own.lt {w : World} {g : Nat} {xs : List Nat} (h : Own w g xs) : g < w.heap.size := lt_of_block h
theorem Own.put {w : World} {g : Nat} {xs : List Nat} (h : Own w g xs) (i x : Nat) : Own (w.setCell ⟨g, i, none⟩ (.int .u64 (x : Int))) g (xs.set i x) := by
  unfold Own
  rw [heap_setCell_same w g i _ _ _ h, u64s_set]
theorem Own.rd {w : World} {g : Nat} {xs : List Nat} (h : Own w g xs) (hl : xs.length ≤ 1048576) (hx : ∀ x ∈ xs, x < 18446744073709551616) : Rd w (some ⟨g, 0, none⟩) xs :=
  ⟨hl, hx, .inr ⟨g, 0, rfl, fun i hi => by rw [Nat.zero_add]; exact h.cell hi⟩⟩
theorem Own.later {w w' : World} {g B : Nat} {xs : List Nat} (h : Own w g xs) (hb : Below B w w') (hg : g < B) : Own w' g xs := by
  unfold Own
  rw [hb.block g hg]; exact h

theorem szUint64S_any (a : Option Addr) (n c : Nat) (L : Int) (w : World) (hL : 0 ≤ L) (hL2 : L ≤ 1048576) (hn : n ≤ 9223372036854775807) :
    Calls Tryz.prog 117 #[.slice a n c, .int .i64 L] w fun e w' => e = .returned (.int .i64 (if (n : Int) ≤ L then L - n else -1)) ∧ w' = w := by
  by_cases h : (n : Int) ≤ L
  · rw [if_pos h]
    go_enter Tryz.func117, Tryz.ntmps117
    go_wp2
    go_ret
    exact ⟨rfl, rfl⟩
  · rw [if_neg h]
    go_enter Tryz.func117, Tryz.ntmps117
    go_wp2
    go_ret
    exact ⟨rfl, rfl⟩

theorem szBits_yes (W : Int) (a : Option Addr) (n c : Nat) (L : Int) (w : World) (hL : 0 ≤ L) (hL2 : L ≤ 1048576) (hn : n ≤ 9223372036854775807) (h : (n : Int) ≤ L) :
    Calls Tryz.prog 103 #[.agg #[.int .i64 W, .slice a n c], .int .i64 L] w fun e w' => e = .returned (.int .i64 (L - n)) ∧ Below w.heap.size w w' := by
  go_enter Tryz.func103, Tryz.ntmps103
  go_wp2_with (go_at_call 117; refine (szUint64S_any _ _ _ _ _ hL hL2 hn).mono ?_; rw [if_pos h]; rintro e w' ⟨rfl, rfl⟩)
  go_ret
  exact ⟨rfl, (Below.refl _ _).alloc (Nat.le_refl _) _⟩

theorem szBits_no (W : Int) (a : Option Addr) (n c : Nat) (L : Int) (w : World) (hL : 0 ≤ L) (hL2 : L ≤ 1048576) (hn : n ≤ 9223372036854775807) (h : ¬ (n : Int) ≤ L) :
    Calls Tryz.prog 103 #[.agg #[.int .i64 W, .slice a n c], .int .i64 L] w fun e w' => e = .returned (.int .i64 (-1)) ∧ Below w.heap.size w w' := by
  go_enter Tryz.func103, Tryz.ntmps103
  go_wp2_with (go_at_call 117; refine (szUint64S_any _ _ _ _ _ hL hL2 hn).mono ?_; rw [if_neg h]; rintro e w' ⟨rfl, rfl⟩)
  go_ret
  exact ⟨rfl, (Below.refl _ _).alloc (Nat.le_refl _) _⟩

theorem take_set (xs : List Nat) (k : Nat) (h : k < xs.length) :
    (xs.take k ++ List.replicate (xs.length - k) 0).set k (xs.getD k 0) = xs.take (k + 1) ++ List.replicate (xs.length - (k + 1)) 0 := by
  apply List.ext_getElem?
  intro i
  simp only [List.getElem?_set, List.getElem?_append, List.getElem?_take, List.length_take, List.getElem?_replicate, List.length_append, List.length_replicate, List.getD]
  split <;> split <;> split <;> (try split) <;> (try split) <;> (try omega) <;> simp_all <;> (try omega)

theorem toUint64S_any (a : Option Addr) (c : Nat) (xs : List Nat) (w : World) (hr : Rd w a xs) :
    Calls Tryz.prog 119 #[.slice a xs.length c] w fun e w' => e = .returned (.slice (some ⟨w.heap.size, 0, none⟩) xs.length xs.length) ∧ Own w' w.heap.size xs ∧ Below w.heap.size w w' := by
  have hlen := hr.1
  have hmk := fun kl kc w => run_make_row' (P := Tryz.prog) 100 123 (.int .u64 0) 8 Tryz.underlying100 Tryz.infoU64 rfl kl kc xs.length (by omega) (by omega) w
  go_enter Tryz.func119, Tryz.ntmps119
  go_wp2
  go_loopw [4] (fun i wr => ∃ k : Nat, k ≤ xs.length ∧ i = .int .i64 k ∧ Own wr w.heap.size (xs.take k ++ List.replicate (xs.length - k) 0) ∧ Below w.heap.size w wr) (fun i _ => xs.length - (intOf i).toNat)
  case atStart =>
    refine ⟨0, Nat.zero_le _, rfl, ?_, (Below.refl _ _).alloc (Nat.le_refl _) _⟩
    unfold Own
    rw [heap_alloc_new, u64s_made]
    rfl
  case round =>
    obtain ⟨k, hk, rfl, hown, hbel⟩ := hrel
    by_cases hlt : k < xs.length
    · obtain ⟨-, -, h | ⟨b, o, rfl, hc⟩⟩ := hr
      · subst h; simp at hlt
      have hcell := hc k hlt
      have hb : b < w.heap.size := block_lt_of_cell hcell
      have hcw : wr.cell? ⟨b, o + k, none⟩ = some (.int .u64 ((xs.getD k 0 : Nat) : Int)) := by rw [hbel.cell (by exact hb)]; exact hcell
      have hcg := hown.cell (i := k) (by simp; omega)
      have hfg := hown.free k
      have HO := show Hid _ from hown.put k (xs.getD k 0)
      have HB := show Hid _ from hbel
      generalize (xs.take k ++ List.replicate (xs.length - k) 0).getD k 0 = z at hcg
      have HT := show Hid _ from take_set xs k hlt
      clear hc hcell hown hbel hmk
      generalize xs.getD k 0 = y at *
      go_wp2
      go_roundw
      case rel =>
        have h := HO.out
        rw [HT.out] at h
        exact ⟨k + 1, by omega, by go_num, h, HB.out.setCell (Nat.le_refl _) _⟩
      case measure => simp [intOf]; omega
    · clear hmk
      go_wp2
      go_ret
      refine ⟨rfl, ?_, hbel⟩
      have e : k = xs.length := by omega
      rw [e] at hown
      simpa using hown

end Go.Proofs.YtheglnkndjheaaaGreatDoor

/- Contracts of toBits and eqBits of the laws. -/
namespace Go.Proofs.YtheglnkndjheaaaGreatDoor
set_option linter.unusedVariables false
set_option linter.unusedSimpArgs false
open Go.RowKit

/-- What was laid when a call began still stands. -/
def St (w : World) (bx : Obj) (wk : World) : Prop := Below (w.heap.size + 1) (w.alloc bx) wk

theorem St.start (w : World) (bx : Obj) : St w bx (w.alloc bx) := Below.refl _ _
theorem St.size {w wk : World} {bx : Obj} (h : St w bx wk) : w.heap.size < wk.heap.size := by
  have := Below.size h
  simp at this; omega
theorem St.next {w wk w1 : World} {bx : Obj} (h : St w bx wk) (hb : Below wk.heap.size wk w1) : St w bx w1 := Below.trans h (hb.mono (by have := h.size; omega))
theorem St.next' {w wk w1 : World} {bx : Obj} {B : Nat} (h : St w bx wk) (hb : Below B wk w1) (hB : w.heap.size < B) : St w bx w1 := Below.trans h (hb.mono hB)
theorem St.cell {w wk : World} {cs : Array Value} {t : TypeId} (h : St w (.cells cs t) wk) (i : Nat) : wk.cell? ⟨w.heap.size, i, none⟩ = cs[i]? := by
  rw [Below.cell h (p := ⟨w.heap.size, i, none⟩) (by simp)]; simp
theorem St.two {w wk : World} {x y : Value} {t : TypeId} (h : St w (.cells #[x, y] t) wk) : wk.cell? ⟨w.heap.size, 0, none⟩ = some x ∧ wk.cell? ⟨w.heap.size, 1, none⟩ = some y :=
  ⟨h.cell 0, h.cell 1⟩
theorem St.below {w wk : World} {bx : Obj} (h : St w bx wk) : Below w.heap.size w wk := ((Below.refl _ _).alloc (Nat.le_refl _) _).trans (Below.mono h (Nat.le_succ _))
theorem St.rd {w wk : World} {bx : Obj} (h : St w bx wk) {a : Option Addr} {xs : List Nat} (hr : Rd w a xs) : Rd wk a xs := hr.later h.below

theorem undrew {B : Nat} {w w' : World} (h : Below B w.drew w') : Below B w w' := ⟨h.os, h.tape, h.output, h.size, h.block⟩

/-- Behind a call that lets all old blocks be: all old cells read as before, and may be written as before. -/
theorem bcell {W w1 : World} (hb : Below W.heap.size W w1) : (∀ b o, b < W.heap.size → w1.cell? ⟨b, o, none⟩ = W.cell? ⟨b, o, none⟩) ∧ (∀ b o, b < W.heap.size → w1.frozen? ⟨b, o, none⟩ = W.frozen? ⟨b, o, none⟩) :=
  ⟨fun b o h => hb.cell (p := ⟨b, o, none⟩) h, fun b o h => hb.frozen (p := ⟨b, o, none⟩) h⟩

theorem Own.other {w : World} {g : Nat} {xs : List Nat} (h : Own w g xs) {a : Addr} (ha : g ≠ a.block) (v : Value) : Own (w.setCell a v) g xs := by
  unfold Own
  rw [heap_setCell_other w a g v ha]; exact h

theorem toBits_any (W : Int) (a : Option Addr) (c : Nat) (xs : List Nat) (w : World) (hr : Rd w a xs) :
    Calls Tryz.prog 108 #[.agg #[.int .i64 W, .slice a xs.length c]] w fun e w' => ∃ g, e = .returned (.agg #[.int .i64 W, .slice (some ⟨g, 0, none⟩) xs.length xs.length]) ∧ w.heap.size ≤ g ∧ Own w' g xs ∧ Below w.heap.size w w' := by
  go_enter Tryz.func108, Tryz.ntmps108
  go_wp2_with fail
  refine (toUint64S_any a c xs _ ?_).mono ?_
  · exact hr.later ((((Below.refl _ _).alloc (Nat.le_refl _) _).alloc (by simp) _).alloc (by simp; omega) _)
  rintro e w1 ⟨rfl, hown, hb⟩
  obtain ⟨hc, hf⟩ := bcell hb
  have hz : w.heap.size + 1 + 1 < w1.heap.size := by have := hb.size; simp at this; omega
  have HO := show Hid _ from hown
  have HB := show Hid _ from hb
  clear hown hb hr
  go_wp2
  refine bodyPost_ret (v := .agg #[.int .i64 W, .slice (some ⟨w.heap.size + 1 + 1 + 1, 0, none⟩) xs.length xs.length]) (by simp [results, Tryz.results108, go_sem, hc]) rfl ⟨_, rfl, by omega, ?_, ?_⟩
  · have h := HO.out
    simp only [World.size_alloc] at h
    exact ((Own.other h (by simp) _).other (by simp; omega) _).other (by simp; omega) _
  · have h := HB.out
    have h0 : Below w.heap.size w w1 := ((((Below.refl _ _).alloc (Nat.le_refl _) _).alloc (by simp) _).alloc (by simp; omega) _).trans (h.mono (by simp; omega))
    exact ((h0.setCell (by simp; omega) _).setCell (by simp) _).setCell (by simp) _

theorem eqUint64S_any (a b : Option Addr) (c d : Nat) (xs ys : List Nat) (w : World) (hr : Rd w a xs) (hs : Rd w b ys) :
    Calls Tryz.prog 120 #[.slice a xs.length c, .slice b ys.length d] w fun e w' => e = .returned (.bool (decide (xs = ys))) ∧ Below w.heap.size w w' := by
  have hl1 := hr.1
  have hl2 := hs.1
  by_cases hl : xs.length = ys.length
  · have hne : ((xs.length : Int) != (ys.length : Int)) = false := by simp [hl]
    have HL : Hid (xs.length = ys.length) := hl
    clear hl
    go_enter Tryz.func120, Tryz.ntmps120
    go_wp2
    clear hne
    go_loopw [5] (fun i wr => ∃ k : Nat, k ≤ xs.length ∧ i = .int .i64 k ∧ (∀ j, j < k → xs.getD j 0 = ys.getD j 0) ∧ Below w.heap.size w wr) (fun i _ => xs.length - (intOf i).toNat)
    case atStart => exact ⟨0, Nat.zero_le _, rfl, fun j h => by omega, Below.refl _ _⟩
    case round =>
      obtain ⟨k, hk, rfl, hz, hbel⟩ := hrel
      have HZ := show Hid _ from hz
      have HB := show Hid _ from hbel
      by_cases hlt : k < xs.length
      · obtain ⟨-, -, h | ⟨b1, o1, rfl, hc1⟩⟩ := hr
        · subst h; simp at hlt
        have hlt2 : k < ys.length := by have := HL.out; omega
        obtain ⟨-, -, h | ⟨b2, o2, rfl, hc2⟩⟩ := hs
        · subst h; simp at hlt2
        have e1 := hc1 k hlt
        have e2 := hc2 k hlt2
        have f1 : wr.cell? ⟨b1, o1 + k, none⟩ = some (.int .u64 ((xs.getD k 0 : Nat) : Int)) := by rw [hbel.cell (by exact block_lt_of_cell e1)]; exact e1
        have f2 : wr.cell? ⟨b2, o2 + k, none⟩ = some (.int .u64 ((ys.getD k 0 : Nat) : Int)) := by rw [hbel.cell (by exact block_lt_of_cell e2)]; exact e2
        have hxe : decide (xs = ys) = false ∨ xs.getD k 0 = ys.getD k 0 := by
          by_cases h : xs = ys
          · exact .inr (by rw [h])
          · exact .inl (by simp [h])
        clear hc1 hc2 hz hbel e1 e2
        have i0 : (k : Int) < (xs.length : Int) := by omega
        have i1 : (k : Int) < (ys.length : Int) := by omega
        generalize hx1 : xs.getD k 0 = x1 at *
        generalize hy1 : ys.getD k 0 = y1 at *
        have HX : Hid (xs.getD k 0 = x1) := hx1
        have HY : Hid (ys.getD k 0 = y1) := hy1
        clear hx1 hy1
        by_cases hxy : x1 = y1
        · have hb : ((x1 : Int) != (y1 : Int)) = false := by simp [hxy]
          have HE : Hid (x1 = y1) := hxy
          clear hxe hxy
          go_wp2_with fail
          go_quiet (fail)
          go_wp2
          go_roundw
          case rel =>
            refine ⟨k + 1, by omega, by go_num, fun j hj => ?_, below_drewN HB.out _⟩
            by_cases hj' : j = k
            · rw [hj', HX.out, HY.out]; exact HE.out
            · exact HZ.out j (by omega)
          case measure => simp [intOf]; omega
        · have hb : ((x1 : Int) != (y1 : Int)) = true := by simp; omega
          have HE : Hid (decide (xs = ys) = false) := by
            rcases hxe with h | h
            · exact h
            · exact absurd h hxy
          clear hxe hxy
          go_wp2_with fail
          go_quiet (fail)
          go_wp2
          go_ret
          exact ⟨ret_bool HE.out.symm, below_drewN HB.out _⟩
      · clear hz hbel
        go_wp2
        go_ret
        refine ⟨ret_bool ?_, HB.out⟩
        have he : xs = ys := by
          refine List.ext_getElem HL.out fun j h1 h2 => ?_
          have := HZ.out j (by omega)
          simpa [List.getD, h1, h2] using this
        simp [he]
  · have hne : ((xs.length : Int) != (ys.length : Int)) = true := by simp; omega
    have hx : xs ≠ ys := fun h => hl (by rw [h])
    go_enter Tryz.func120, Tryz.ntmps120
    go_wp2
    go_ret
    exact ⟨ret_bool (by simp [hx]), Below.refl _ _⟩

theorem eqBits_any (V W : Int) (a b : Option Addr) (c d : Nat) (xs ys : List Nat) (w : World) (hr : Rd w a xs) (hs : Rd w b ys) :
    Calls Tryz.prog 110 #[.agg #[.int .i64 V, .slice a xs.length c], .agg #[.int .i64 W, .slice b ys.length d]] w fun e w' => e = .returned (.bool (decide (V = W ∧ xs = ys))) ∧ Below w.heap.size w w' := by
  have h2 : Below w.heap.size w ((w.alloc (Obj.cells #[Value.int IntKind.i64 V, Value.slice a xs.length c] 102)).alloc (Obj.cells #[Value.int IntKind.i64 W, Value.slice b ys.length d] 102)) := ((Below.refl _ _).alloc (Nat.le_refl _) _).alloc (by simp) _
  by_cases hV : V = W
  · have hne : (V != W) = false := by simp [hV]
    have HV : Hid (V = W) := hV
    clear hV
    have hr' := hr.later h2
    have hs' := hs.later h2
    cases he : decide (xs = ys) with
    | true =>
      have HE : Hid (decide (V = W ∧ xs = ys) = true) := by show _ = _; simp [HV.out]; simpa using he
      have H2 := show Hid _ from h2
      clear h2 hr hs
      go_enter Tryz.func110, Tryz.ntmps110
      go_wp2_with (go_at_call 120; refine (eqUint64S_any _ _ _ _ _ _ _ hr' hs').mono ?_; rintro e w' ⟨rfl, hb⟩)
      go_ret
      exact ⟨ret_bool HE.out.symm, H2.out.trans (hb.mono (by simp; omega))⟩
    | false =>
      have HE : Hid (decide (V = W ∧ xs = ys) = false) := by show _ = _; simp; intro _; simpa using he
      have H2 := show Hid _ from h2
      clear h2 hr hs
      go_enter Tryz.func110, Tryz.ntmps110
      go_wp2_with (go_at_call 120; refine (eqUint64S_any _ _ _ _ _ _ _ hr' hs').mono ?_; rintro e w' ⟨rfl, hb⟩)
      go_ret
      exact ⟨ret_bool HE.out.symm, H2.out.trans (hb.mono (by simp; omega))⟩
  · have hne : (V != W) = true := by simp [hV]
    clear hr hs
    go_enter Tryz.func110, Tryz.ntmps110
    go_wp2
    go_ret
    exact ⟨ret_bool (by simp [hV]), h2⟩

end Go.Proofs.YtheglnkndjheaaaGreatDoor

/- Contracts of the laws' own small functions on rows of whole numbers: how long, copied, compared. -/
namespace Go.Proofs.YtheglnkndjheaaaGreatDoor
set_option linter.unusedVariables false
set_option linter.unusedSimpArgs false
open Go.RowKit

theorem Tryz.infoI64 : (Tryz.prog.info? 2).map (fun i => (i.zero, i.size, i.bytes)) = some (some (.int .i64 0), 1, 8) := by kernel_rfl


/-- A slice whose numbers are ks, wherever it lies. -/
def RdI (w : World) (a : Option Addr) (ks : List Int) : Prop :=
  ks.length ≤ 1048576 ∧ (∀ k ∈ ks, in64 k) ∧ (ks = [] ∨ ∃ b o, a = some ⟨b, o, none⟩ ∧ ∀ i, i < ks.length → w.cell? ⟨b, o + i, none⟩ = some (.int .i64 (ks.getD i 0)))

theorem RdI.later {w w' : World} {a : Option Addr} {ks : List Int} (h : RdI w a ks) (hb : Below w.heap.size w w') : RdI w' a ks := by
  obtain ⟨h1, h2, h3⟩ := h
  refine ⟨h1, h2, ?_⟩
  rcases h3 with h3 | ⟨b, o, rfl, hc⟩
  · exact .inl h3
  · refine .inr ⟨b, o, rfl, fun i hi => ?_⟩
    have := hc i hi
    rw [hb.cell (p := ⟨b, o + i, none⟩) (by exact block_lt_of_cell this)]
    exact this

def i64s (ks : List Int) : Array Value := (ks.map fun (k : Int) => Value.int .i64 k).toArray

theorem i64s_size (ks : List Int) : (i64s ks).size = ks.length := by simp [i64s]
theorem i64s_get (ks : List Int) (i : Nat) (h : i < ks.length) : (i64s ks)[i]? = some (.int .i64 (ks.getD i 0)) := by simp [i64s, List.getD, h]
theorem i64s_set (ks : List Int) (i : Nat) (k : Int) : (i64s ks).setIfInBounds i (.int .i64 k) = i64s (ks.set i k) := by
  simp [i64s, List.setIfInBounds_toArray, List.map_set]
theorem i64s_made (n : Nat) : madeCells #[Value.int .i64 0] n = i64s (List.replicate n 0) := by
  apply Array.toList_inj.1
  rw [toList_madeCells_one]
  simp [i64s]

/-- The block g holds just the numbers ks, and may be written. -/
def OwnI (w : World) (g : Nat) (ks : List Int) : Prop := w.heap[g]? = some (.cells (i64s ks) 2 (0, 0))

theorem OwnI.cell {w : World} {g : Nat} {ks : List Int} (h : OwnI w g ks) {i : Nat} (hi : i < ks.length) : w.cell? ⟨g, i, none⟩ = some (.int .i64 (ks.getD i 0)) := by
  rw [cell_of_row w g i _ _ _ h, i64s_get _ _ hi]
theorem OwnI.free {w : World} {g : Nat} {ks : List Int} (h : OwnI w g ks) (i : Nat) : w.frozen? ⟨g, i, none⟩ = false := frozen_of_row w g i _ _ h
theorem OwnI.lt {w : World} {g : Nat} {ks : List Int} (h : OwnI w g ks) : g < w.heap.size := lt_of_block h
theorem OwnI.put {w : World} {g : Nat} {ks : List Int} (h : OwnI w g ks) (i : Nat) (k : Int) : OwnI (w.setCell ⟨g, i, none⟩ (.int .i64 k)) g (ks.set i k) := by
  unfold OwnI
  rw [heap_setCell_same w g i _ _ _ h, i64s_set]
theorem OwnI.rd {w : World} {g : Nat} {ks : List Int} (h : OwnI w g ks) (hl : ks.length ≤ 1048576) (hx : ∀ k ∈ ks, in64 k) : RdI w (some ⟨g, 0, none⟩) ks :=
  ⟨hl, hx, .inr ⟨g, 0, rfl, fun i hi => by rw [Nat.zero_add]; exact h.cell hi⟩⟩
theorem OwnI.later {w w' : World} {g B : Nat} {ks : List Int} (h : OwnI w g ks) (hb : Below B w w') (hg : g < B) : OwnI w' g ks := by
  unfold OwnI
  rw [hb.block g hg]; exact h
theorem OwnI.other {w : World} {g : Nat} {ks : List Int} (h : OwnI w g ks) {a : Addr} (ha : g ≠ a.block) (v : Value) : OwnI (w.setCell a v) g ks := by
  unfold OwnI
  rw [heap_setCell_other w a g v ha]; exact h

theorem szInt64S_any (a : Option Addr) (n c : Nat) (L : Int) (w : World) (hL : 0 ≤ L) (hL2 : L ≤ 1048576) (hn : n ≤ 9223372036854775807) :
    Calls Tryz.prog 104 #[.slice a n c, .int .i64 L] w fun e w' => e = .returned (.int .i64 (if (n : Int) ≤ L then L - n else -1)) ∧ w' = w := by
  by_cases h : (n : Int) ≤ L
  · rw [if_pos h]
    go_enter Tryz.func104, Tryz.ntmps104
    go_wp2
    go_ret
    exact ⟨rfl, rfl⟩
  · rw [if_neg h]
    go_enter Tryz.func104, Tryz.ntmps104
    go_wp2
    go_ret
    exact ⟨rfl, rfl⟩

theorem take_setI (xs : List Int) (k : Nat) (h : k < xs.length) :
    (xs.take k ++ List.replicate (xs.length - k) 0).set k (xs.getD k 0) = xs.take (k + 1) ++ List.replicate (xs.length - (k + 1)) 0 := by
  apply List.ext_getElem?
  intro i
  simp only [List.getElem?_set, List.getElem?_append, List.getElem?_take, List.length_take, List.getElem?_replicate, List.length_append, List.length_replicate, List.getD]
  split <;> split <;> split <;> (try split) <;> (try split) <;> (try omega) <;> simp_all <;> (try omega)

theorem toInt64S_any (a : Option Addr) (c : Nat) (xs : List Int) (w : World) (hr : RdI w a xs) :
    Calls Tryz.prog 19 #[.slice a xs.length c] w fun e w' => e = .returned (.slice (some ⟨w.heap.size, 0, none⟩) xs.length xs.length) ∧ OwnI w' w.heap.size xs ∧ Below w.heap.size w w' := by
  have hlen := hr.1
  have hmk := fun kl kc w => run_make_row' (P := Tryz.prog) 40 2 (.int .i64 0) 8 Tryz.underlying40 Tryz.infoI64 rfl kl kc xs.length (by omega) (by omega) w
  go_enter Tryz.func19, Tryz.ntmps19
  go_wp2
  go_loopw [4] (fun i wr => ∃ k : Nat, k ≤ xs.length ∧ i = .int .i64 k ∧ OwnI wr w.heap.size (xs.take k ++ List.replicate (xs.length - k) 0) ∧ Below w.heap.size w wr) (fun i _ => xs.length - (intOf i).toNat)
  case atStart =>
    refine ⟨0, Nat.zero_le _, rfl, ?_, (Below.refl _ _).alloc (Nat.le_refl _) _⟩
    unfold OwnI
    rw [heap_alloc_new, i64s_made]
    rfl
  case round =>
    obtain ⟨k, hk, rfl, hown, hbel⟩ := hrel
    by_cases hlt : k < xs.length
    · obtain ⟨-, -, h | ⟨b, o, rfl, hc⟩⟩ := hr
      · subst h; simp at hlt
      have hcell := hc k hlt
      have hb : b < w.heap.size := block_lt_of_cell hcell
      have hcw : wr.cell? ⟨b, o + k, none⟩ = some (.int .i64 (xs.getD k 0)) := by rw [hbel.cell (by exact hb)]; exact hcell
      have hcg := hown.cell (i := k) (by simp; omega)
      have hfg := hown.free k
      have HO := show Hid _ from hown.put k (xs.getD k 0)
      have HB := show Hid _ from hbel
      generalize (xs.take k ++ List.replicate (xs.length - k) 0).getD k 0 = z at hcg
      have HT := show Hid _ from take_setI xs k hlt
      clear hc hcell hown hbel hmk
      generalize xs.getD k 0 = y at *
      go_wp2
      go_roundw
      case rel =>
        have h := HO.out
        rw [HT.out] at h
        exact ⟨k + 1, by omega, by go_num, h, HB.out.setCell (Nat.le_refl _) _⟩
      case measure => simp [intOf]; omega
    · clear hmk
      go_wp2
      go_ret
      refine ⟨rfl, ?_, hbel⟩
      have e : k = xs.length := by omega
      rw [e] at hown
      simpa using hown

theorem eqInt64S_any (a b : Option Addr) (c d : Nat) (xs ys : List Int) (w : World) (hr : RdI w a xs) (hs : RdI w b ys) :
    Calls Tryz.prog 21 #[.slice a xs.length c, .slice b ys.length d] w fun e w' => e = .returned (.bool (decide (xs = ys))) ∧ Below w.heap.size w w' := by
  have hl1 := hr.1
  have hl2 := hs.1
  by_cases hl : xs.length = ys.length
  · have hne : ((xs.length : Int) != (ys.length : Int)) = false := by simp [hl]
    have HL : Hid (xs.length = ys.length) := hl
    clear hl
    go_enter Tryz.func21, Tryz.ntmps21
    go_wp2
    clear hne
    go_loopw [5] (fun i wr => ∃ k : Nat, k ≤ xs.length ∧ i = .int .i64 k ∧ (∀ j, j < k → xs.getD j 0 = ys.getD j 0) ∧ Below w.heap.size w wr) (fun i _ => xs.length - (intOf i).toNat)
    case atStart => exact ⟨0, Nat.zero_le _, rfl, fun j h => by omega, Below.refl _ _⟩
    case round =>
      obtain ⟨k, hk, rfl, hz, hbel⟩ := hrel
      have HZ := show Hid _ from hz
      have HB := show Hid _ from hbel
      by_cases hlt : k < xs.length
      · obtain ⟨-, -, h | ⟨b1, o1, rfl, hc1⟩⟩ := hr
        · subst h; simp at hlt
        have hlt2 : k < ys.length := by have := HL.out; omega
        obtain ⟨-, -, h | ⟨b2, o2, rfl, hc2⟩⟩ := hs
        · subst h; simp at hlt2
        have e1 := hc1 k hlt
        have e2 := hc2 k hlt2
        have f1 : wr.cell? ⟨b1, o1 + k, none⟩ = some (.int .i64 (xs.getD k 0)) := by rw [hbel.cell (by exact block_lt_of_cell e1)]; exact e1
        have f2 : wr.cell? ⟨b2, o2 + k, none⟩ = some (.int .i64 (ys.getD k 0)) := by rw [hbel.cell (by exact block_lt_of_cell e2)]; exact e2
        have hxe : decide (xs = ys) = false ∨ xs.getD k 0 = ys.getD k 0 := by
          by_cases h : xs = ys
          · exact .inr (by rw [h])
          · exact .inl (by simp [h])
        clear hc1 hc2 hz hbel e1 e2
        have i0 : (k : Int) < (xs.length : Int) := by omega
        have i1 : (k : Int) < (ys.length : Int) := by omega
        generalize hx1 : xs.getD k 0 = x1 at *
        generalize hy1 : ys.getD k 0 = y1 at *
        have HX : Hid (xs.getD k 0 = x1) := hx1
        have HY : Hid (ys.getD k 0 = y1) := hy1
        clear hx1 hy1
        by_cases hxy : x1 = y1
        · have hb : (x1 != y1) = false := by simp [hxy]
          have HE : Hid (x1 = y1) := hxy
          clear hxe hxy
          go_wp2_with fail
          go_quiet (fail)
          go_wp2
          go_roundw
          case rel =>
            refine ⟨k + 1, by omega, by go_num, fun j hj => ?_, below_drewN HB.out _⟩
            by_cases hj' : j = k
            · rw [hj', HX.out, HY.out]; exact HE.out
            · exact HZ.out j (by omega)
          case measure => simp [intOf]; omega
        · have hb : (x1 != y1) = true := by simpa using hxy
          have HE : Hid (decide (xs = ys) = false) := by
            rcases hxe with h | h
            · exact h
            · exact absurd h hxy
          clear hxe hxy
          go_wp2_with fail
          go_quiet (fail)
          go_wp2
          go_ret
          exact ⟨ret_bool HE.out.symm, below_drewN HB.out _⟩
      · clear hz hbel
        go_wp2
        go_ret
        refine ⟨ret_bool ?_, HB.out⟩
        have he : xs = ys := by
          refine List.ext_getElem HL.out fun j h1 h2 => ?_
          have := HZ.out j (by omega)
          simpa [List.getD, h1, h2] using this
        simp [he]
  · have hne : ((xs.length : Int) != (ys.length : Int)) = true := by simp; omega
    have hx : xs ≠ ys := fun h => hl (by rw [h])
    go_enter Tryz.func21, Tryz.ntmps21
    go_wp2
    go_ret
    exact ⟨ret_bool (by simp [hx]), Below.refl _ _⟩

end Go.Proofs.YtheglnkndjheaaaGreatDoor

/- Contracts of the laws' own small functions on rows of declared variables: how long, copied, compared. -/
namespace Go.Proofs.YtheglnkndjheaaaGreatDoor
set_option linter.unusedVariables false
set_option linter.unusedSimpArgs false
open Go.RowKit

def DcAt (w : World) (b o : Nat) (d : Dc) : Prop := w.cell? ⟨b, o, none⟩ = some (.string d.1) ∧ w.cell? ⟨b, o + 1, none⟩ = some (.int .i64 d.2)

theorem DcAt.later {w w' : World} {b o : Nat} {d : Dc} (h : DcAt w b o d) (hb : Below w.heap.size w w') : DcAt w' b o d :=
  ⟨by rw [kcell hb _ _ (block_lt_of_cell h.1)]; exact h.1, by rw [kcell hb _ _ (block_lt_of_cell h.2)]; exact h.2⟩

/-- A slice whose variables are ds, wherever it lies. -/
def RdD (w : World) (a : Option Addr) (ds : List Dc) : Prop :=
  ds.length ≤ 1048576 ∧ (∀ d ∈ ds, in64 d.2 ∧ d.1.size ≤ 9223372036854775807) ∧ (ds = [] ∨ ∃ b o, a = some ⟨b, o, none⟩ ∧ ∀ i d, ds[i]? = some d → DcAt w b (o + i * 2) d)

theorem RdD.later {w w' : World} {a : Option Addr} {ds : List Dc} (h : RdD w a ds) (hb : Below w.heap.size w w') : RdD w' a ds := by
  refine ⟨h.1, h.2.1, ?_⟩
  rcases h.2.2 with h | ⟨b, o, rfl, hc⟩
  · exact .inl h
  · exact .inr ⟨b, o, rfl, fun i n hi => (hc i n hi).later hb⟩

theorem szDecl_any (s : ByteArray) (x : Int) (L : Int) (w : World) (hL : 0 ≤ L) (hL2 : L ≤ 1048576) (hs : s.size ≤ 9223372036854775807) :
    Calls Tryz.prog 24 #[.agg #[.string s, .int .i64 x], .int .i64 L] w fun e w' => e = .returned (.int .i64 (if (s.size : Int) ≤ L then L - s.size else -1)) ∧ Below w.heap.size w w' := by
  by_cases h : (s.size : Int) ≤ L
  · rw [if_pos h]
    go_enter Tryz.func24, Tryz.ntmps24
    go_wp2_with fail
    go_ret
    exact ⟨rfl, (Below.refl _ _).alloc (Nat.le_refl _) _⟩
  · rw [if_neg h]
    go_enter Tryz.func24, Tryz.ntmps24
    go_wp2_with fail
    go_ret
    exact ⟨rfl, (Below.refl _ _).alloc (Nat.le_refl _) _⟩

/-- What is left of L behind the names of some variables; -1: nothing. -/
def szD : List Dc → Int → Int
  | [], L => L
  | d :: t, L => if (d.1.size : Int) ≤ L then szD t (L - d.1.size) else -1

theorem szD_range (ds : List Dc) (L : Int) (hL : 0 ≤ L) : szD ds L = -1 ∨ 0 ≤ szD ds L ∧ szD ds L ≤ L ∧ ∀ d ∈ ds, (d.1.size : Int) ≤ L := by
  induction ds generalizing L with
  | nil => right; simp [szD]; exact hL
  | cons h t ih =>
    rw [szD]
    split
    · rename_i hc
      rcases ih (L - h.1.size) (by omega) with e | ⟨e1, e2, e3⟩
      · left; exact e
      · right
        refine ⟨e1, by omega, fun x hx => ?_⟩
        rcases List.mem_cons.1 hx with rfl | hx
        · exact hc
        · have := e3 x hx; omega
    · left; rfl

theorem szDeclS_in (a : Option Addr) (c : Nat) (ds : List Dc) (L : Int) (w : World) (hr : RdD w a ds) (hL : 0 ≤ L) (hL2 : L ≤ 1048576) (h : (ds.length : Int) ≤ L) :
    Calls Tryz.prog 5 #[.slice a ds.length c, .int .i64 L] w fun e w' => e = .returned (.int .i64 (szD ds (L - ds.length))) ∧ Below w.heap.size w w' := by
  have hlen := hr.1
  generalize hZ : szD ds (L - ds.length) = Z
  have HZ : Hid (szD ds (L - ds.length) = Z) := hZ
  clear hZ
  go_enter Tryz.func5, Tryz.ntmps5
  go_wp2_with fail
  go_loopw [1, 5] (fun l i wr => ∃ (k : Nat) (Q : Int), k ≤ ds.length ∧ i = .int .i64 k ∧ l = .int .i64 Q ∧ 0 ≤ Q ∧ Q ≤ 1048576 ∧ szD (ds.drop k) Q = Z ∧ Below w.heap.size w wr) (fun _ i _ => ds.length - (intOf i).toNat)
  case atStart => exact ⟨0, _, Nat.zero_le _, rfl, rfl, by omega, by omega, by rw [List.drop_zero]; exact HZ.out, Below.refl _ _⟩
  case round =>
    obtain ⟨k, Q, hk, rfl, rfl, hQ0, hQ1, hq, hbel⟩ := hrel
    by_cases hlt : k < ds.length
    · obtain ⟨-, hsz, h | ⟨b, o, rfl, hc⟩⟩ := hr
      · subst h; simp at hlt
      obtain ⟨⟨t, x⟩, hh⟩ : ∃ x, ds[k] = x := ⟨_, rfl⟩
      have gx : ds[k]? = some (t, x) := by rw [List.getElem?_eq_getElem hlt, hh]
      obtain ⟨g0, g1⟩ := (hc k _ gx).later hbel
      simp only [] at g0 g1
      have hts := (hsz _ (List.mem_of_getElem? gx)).2
      simp only [] at hts
      rw [List.drop_eq_getElem_cons hlt, hh, szD] at hq
      simp only [] at hq
      have HQ : Hid _ := hq
      have HB : Hid _ := hbel
      clear hc hh gx hbel hq hsz
      by_cases hyes : (t.size : Int) ≤ Q
      · go_wp2_with (go_at_call 24; refine (szDecl_any _ _ _ _ hQ0 hQ1 hts).mono ?_; rw [if_pos hyes]; rintro e w1 ⟨rfl, hb1⟩)
        go_roundw
        case rel =>
          have h := HQ.out
          rw [if_pos hyes] at h
          exact ⟨k + 1, _, by omega, by go_num, rfl, by omega, by omega, h, HB.out.trans (hb1.mono HB.out.size)⟩
        case measure => simp [intOf]; omega
      · go_wp2_with (go_at_call 24; refine (szDecl_any _ _ _ _ hQ0 hQ1 hts).mono ?_; rw [if_neg hyes]; rintro e w1 ⟨rfl, hb1⟩)
        go_ret
        have h := HQ.out
        rw [if_neg (by omega)] at h
        exact ⟨ret_int h, HB.out.trans (hb1.mono HB.out.size)⟩
    · have e : k = ds.length := by omega
      rw [e, List.drop_length, szD] at hq
      have HQ : Hid _ := hq
      clear hq
      go_wp2_with fail
      go_ret
      exact ⟨ret_int HQ.out, hbel⟩

theorem szDeclS_out (a : Option Addr) (n c : Nat) (L : Int) (w : World) (hL : 0 ≤ L) (hL2 : L ≤ 1048576) (hn : n ≤ 9223372036854775807) (h : ¬ (n : Int) ≤ L) :
    Calls Tryz.prog 5 #[.slice a n c, .int .i64 L] w fun e w' => e = .returned (.int .i64 (-1)) ∧ w' = w := by
  go_enter Tryz.func5, Tryz.ntmps5
  go_wp2_with fail
  go_ret
  exact ⟨rfl, rfl⟩

theorem eqDecl_same (s : ByteArray) (x : Int) (w : World) :
    Calls Tryz.prog 35 #[.agg #[.string s, .int .i64 x], .agg #[.string s, .int .i64 x]] w fun e w' => e = .returned (.bool true) ∧ Below w.heap.size w w' := by
  have h2 : Below w.heap.size w ((w.alloc (Obj.cells #[Value.string s, Value.int .i64 x] 64)).alloc (Obj.cells #[Value.string s, Value.int .i64 x] 64)) := ((Below.refl _ _).alloc (Nat.le_refl _) _).alloc (by simp) _
  have hx : (x != x) = false := by simp
  go_enter Tryz.func35, Tryz.ntmps35
  go_wp2_with fail
  go_ret
  exact ⟨rfl, h2⟩

theorem eqDeclS_same (a b : Option Addr) (c d : Nat) (ds : List Dc) (w : World) (hr : RdD w a ds) (hs : RdD w b ds) :
    Calls Tryz.prog 12 #[.slice a ds.length c, .slice b ds.length d] w fun e w' => e = .returned (.bool true) ∧ Below w.heap.size w w' := by
  have hl1 := hr.1
  have hne : ((ds.length : Int) != (ds.length : Int)) = false := by simp
  go_enter Tryz.func12, Tryz.ntmps12
  go_wp2_with fail
  clear hne
  go_loopw [5] (fun i wr => ∃ k : Nat, k ≤ ds.length ∧ i = .int .i64 k ∧ Below w.heap.size w wr) (fun i _ => ds.length - (intOf i).toNat)
  case atStart => exact ⟨0, Nat.zero_le _, rfl, Below.refl _ _⟩
  case round =>
    obtain ⟨k, hk, rfl, hbel⟩ := hrel
    have HB := kide hbel
    by_cases hlt : k < ds.length
    · obtain ⟨-, -, h | ⟨b1, o1, rfl, hc1⟩⟩ := hr
      · subst h; simp at hlt
      obtain ⟨-, -, h | ⟨b2, o2, rfl, hc2⟩⟩ := hs
      · subst h; simp at hlt
      obtain ⟨⟨t, x⟩, hh⟩ : ∃ x, ds[k] = x := ⟨_, rfl⟩
      have gx : ds[k]? = some (t, x) := by rw [List.getElem?_eq_getElem hlt, hh]
      obtain ⟨p0, p1⟩ := (hc1 k _ gx).later hbel
      obtain ⟨q0, q1⟩ := (hc2 k _ gx).later hbel
      simp only [] at p0 p1 q0 q1
      have l1 := block_lt_of_cell p0
      have l2 := block_lt_of_cell q0
      have i0 : (k : Int) < (ds.length : Int) := by omega
      clear hc1 hc2 hbel hh gx
      go_wp2_with fail
      go_region_held3 (fun u => u.cell? ⟨b1, o1 + k * 2, none⟩ = some (Value.string t) ∧ u.cell? ⟨b1, o1 + k * 2 + 1, none⟩ = some (Value.int .i64 x) ∧ u.cell? ⟨b2, o2 + k * 2, none⟩ = some (Value.string t) ∧ u.cell? ⟨b2, o2 + k * 2 + 1, none⟩ = some (Value.int .i64 x)) (simp [*])
        ((go_at_call 35; refine Calls.mono (eqDecl_same _ _ _) ?_; rintro e w1 ⟨rfl, hb1⟩; replace hb1 := kundrew hb1; have k0 := kcell hb1 b1 (o1 + k * 2) l1; have k1 := kcell hb1 b1 (o1 + k * 2 + 1) l1; have k2 := kcell hb1 b2 (o2 + k * 2) l2; have k3 := kcell hb1 b2 (o2 + k * 2 + 1) l2))
      go_wp2_with fail
      go_roundw
      case rel => exact ⟨k + 1, by omega, by go_num, HB.out.trans (hb1.mono HB.out.size)⟩
      case measure => simp [intOf]; omega
    · clear hbel
      go_wp2_with fail
      go_ret
      exact ⟨rfl, HB.out⟩

theorem Tryz.infoDecl : (Tryz.prog.info? 64).map (fun i => (i.zero, i.size, i.bytes)) = some (some (.agg #[.string .empty, .int .i64 0]), 2, 24) := by kernel_rfl

theorem make_decls (n : Nat) (hn : n ≤ 1048576) (kl kc : IntKind) (w : World) :
    (Instr.makeSlice 29 (.int kl (n : Int)) (.int kc (n : Int))).run Tryz.prog w = .ok (.slice (some ⟨w.heap.size, 0, none⟩) n n) (w.alloc (.cells (madeCells #[.string .empty, .int .i64 0] (n * 2)) 64)) := by
  obtain ⟨i0, hi, hz0, hz1, hz2⟩ := info_parts Tryz.infoDecl
  have := run_make (P := Tryz.prog) w 29 64 i0 _ Tryz.underlying29 hi hz0 kl kc n n (by omega) (Int.le_refl _) (by rw [hz2]; omega) (by omega)
  rw [hz1] at this
  simp only [Int.toNat_natCast] at this
  exact this

theorem toDecl_any (s : ByteArray) (x : Int) (w : World) :
    Calls Tryz.prog 30 #[.agg #[.string s, .int .i64 x]] w fun e w' => e = .returned (.agg #[.string s, .int .i64 x]) ∧ Below w.heap.size w w' := by
  go_enter Tryz.func30, Tryz.ntmps30
  go_wp2_with fail
  refine bodyPost_ret (v := .agg #[.string s, .int .i64 x]) (by simp [results, Tryz.results30, go_sem]) rfl ⟨rfl, ?_⟩
  exact (((Below.refl _ _).alloc (Nat.le_refl _) _).alloc (by simp) _).alloc (by simp; omega) _

theorem toDeclS_any (a : Option Addr) (c : Nat) (ds : List Dc) (w : World) (hr : RdD w a ds) :
    Calls Tryz.prog 8 #[.slice a ds.length c] w fun e w' => e = .returned (.slice (some ⟨w.heap.size, 0, none⟩) ds.length ds.length) ∧ RdD w' (some ⟨w.heap.size, 0, none⟩) ds ∧ Below w.heap.size w w' := by
  have hlen := hr.1
  have hmk := make_decls ds.length hlen
  go_enter Tryz.func8, Tryz.ntmps8
  go_wp2_with fail
  have hrow := krow (heap_alloc_new w (.cells (madeCells #[.string .empty, .int .i64 0] (ds.length * 2)) 64))
  rw [size_madeCells] at hrow
  have hb0 : Below w.heap.size w (w.alloc (.cells (madeCells #[.string .empty, .int .i64 0] (ds.length * 2)) 64)) := (Below.refl _ _).alloc (Nat.le_refl _) _
  have hs0 : w.heap.size < (w.alloc (.cells (madeCells #[.string .empty, .int .i64 0] (ds.length * 2)) 64)).heap.size := by simp
  generalize (w.alloc (.cells (madeCells #[.string .empty, .int .i64 0] (ds.length * 2)) 64)) = w0 at *
  go_loopw [4] (fun i wr => ∃ (k : Nat) (f : Nat → Value), k ≤ ds.length ∧ i = .int .i64 k ∧ wr.rowIs w.heap.size 64 (ds.length * 2) f ∧ (∀ (j : Nat) (d : Dc), j < k → ds[j]? = some d → f (j * 2) = .string d.1 ∧ f (j * 2 + 1) = .int .i64 d.2) ∧ Below w.heap.size w wr ∧ w.heap.size < wr.heap.size) (fun i _ => ds.length - (intOf i).toNat)
  case atStart => exact ⟨0, _, Nat.zero_le _, rfl, hrow, fun j d h => by omega, hb0, hs0⟩
  case round =>
    obtain ⟨k, f, hk, rfl, hrw, hms, hbel, hsz⟩ := hrel
    clear hrow hb0 hs0
    by_cases hlt : k < ds.length
    · obtain ⟨-, -, h | ⟨b, o, rfl, hc⟩⟩ := hr
      · subst h; simp at hlt
      obtain ⟨⟨t, x⟩, hh⟩ : ∃ x, ds[k] = x := ⟨_, rfl⟩
      have gx : ds[k]? = some (t, x) := by rw [List.getElem?_eq_getElem hlt, hh]
      obtain ⟨p0, p1⟩ := (hc k _ gx).later hbel
      simp only [] at p0 p1
      have GX : Hid _ := gx
      have HMS : Hid _ := hms
      have HR : Hid _ := hrw
      have HB : Hid _ := hbel
      have i0 : (k : Int) < (ds.length : Int) := by omega
      clear gx hms hc hrw hbel hmk hh
      go_wp2_with fail
      refine (toDecl_any _ _ _).mono ?_
      rintro e w1 ⟨rfl, hb1⟩
      have hr1 := World.rowIs.of_block HR.out (hb1.block _ hsz)
      have q0 := hr1.cell (i := k * 2) (by omega)
      have q1 := hr1.cell (i := k * 2 + 1) (by omega)
      have r0 := hr1.frozen (k * 2)
      have r1 := hr1.frozen (k * 2 + 1)
      have HR1 : Hid _ := hr1
      clear hr1
      go_wp2_with fail
      go_roundw
      case rel =>
        refine ⟨k + 1, _, by omega, by go_num, World.rowIs.set (World.rowIs.set HR1.out (k * 2) (.string t)) (k * 2 + 1) (.int .i64 x), fun j d hj hd => ?_, ?_, ?_⟩
        · by_cases hjk : j = k
          · subst hjk
            rw [GX.out] at hd
            cases hd
            exact ⟨by simp, by simp⟩
          · obtain ⟨h0, h1⟩ := HMS.out j d (by omega) hd
            constructor
            · show (if _ then _ else _) = _
              rw [if_neg (by omega), if_neg (by omega)]; exact h0
            · show (if _ then _ else _) = _
              rw [if_neg (by omega), if_neg (by omega)]; exact h1
        · exact ((HB.out.trans (hb1.mono HB.out.size)).setCell (Nat.le_refl _) _).setCell (Nat.le_refl _) _
        · have := hb1.size
          simp; omega
      case measure => simp [intOf]; omega
    · have HS : Hid _ := hms
      have HR : Hid _ := hrw
      have HB : Hid _ := hbel
      clear hms hrw hbel hmk
      go_wp2_with fail
      go_ret
      refine ⟨rfl, ⟨hr.1, hr.2.1, .inr ⟨_, 0, rfl, fun i d hi => ?_⟩⟩, HB.out⟩
      have hil := (List.getElem?_eq_some_iff.1 hi).1
      obtain ⟨h0, h1⟩ := HS.out i d (by omega) hi
      refine ⟨?_, ?_⟩
      · rw [Nat.zero_add, ← h0]; exact World.rowIs.cell HR.out (by omega)
      · rw [Nat.zero_add, ← h1]; exact World.rowIs.cell HR.out (by omega)

end Go.Proofs.YtheglnkndjheaaaGreatDoor
