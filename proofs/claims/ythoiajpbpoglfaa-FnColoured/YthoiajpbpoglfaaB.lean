/- What math/bits.Len64 answers: how many bits a word needs. -/
import Derived.Test.YthoiajpbpoglfaaProg
import Derived.WalkKit
import Derived.WalkSpells
import Derived.Lib.Strings
import Derived.Lib.Slices
import Derived.Lib.Small
import Derived.Lib.Walk
import Derived.Lib.BitFns
import Derived.Outline
namespace Go.Proofs.Ythoiajpbpoglfaa
set_option linter.unusedVariables false
set_option linter.unusedSimpArgs false
open Go.RowKit

theorem tabSize : Lib.len8tab.size = 256 := by decide +kernel
theorem tabAll : ∀ n : Fin 256, (Lib.len8tab[n.val]'(by rw [tabSize]; exact n.isLt)).toNat = Lib.bitLen n.val := by decide +kernel
theorem tabAt (n : Nat) (h : n < Lib.len8tab.size) : (Lib.len8tab[n]'h).toNat = Lib.bitLen n := tabAll ⟨n, by rw [tabSize] at h; exact h⟩
theorem bl_le8 (n : Nat) (h : n < 256) : Lib.bitLen n ≤ 8 := Lib.bitLen_le n 8 (by omega) h

theorem bl_le (x k : Nat) (hk : k ≤ 64) (hx : x < 2 ^ 64) : Lib.bitLen x ≤ k ↔ x < 2 ^ k := by
  refine ⟨fun h => ?_, Lib.bitLen_le x k hk⟩
  rcases Nat.lt_or_ge x (2 ^ k) with h' | h'
  · exact h'
  · have s := Lib.bitLen_shift k x h' hx
    have hp : 0 < x / 2 ^ k := Nat.div_pos h' (Nat.two_pow_pos k)
    have h0 : Lib.bitLen (x / 2 ^ k) = 0 := by omega
    have hh := Lib.bitLen_half (x / 2 ^ k) (by omega) (Nat.lt_of_le_of_lt (Nat.div_le_self _ _) hx)
    omega

theorem w64 (n : Int) (h : -9223372036854775808 ≤ n ∧ n ≤ 9223372036854775807) : wrap64 n = n := by unfold wrap64; omega

theorem bl_wrap (a : Int) (k x n : Nat) (hn : n < Lib.len8tab.size) (hk : k ≤ 56) (ha : a = (k : Int)) (hx : x < 2 ^ 64) (hx' : 2 ^ k ≤ x) (hnx : n = x / 2 ^ k) :
    wrap64 (a + wrap64 ((Lib.len8tab[n]'hn).toNat : Int)) = ((Lib.bitLen x : Nat) : Int) := by
  have e := tabAt n hn
  have l := bl_le8 n (by rw [tabSize] at hn; exact hn)
  have s := Lib.bitLen_shift k x hx' hx
  rw [← hnx] at s
  subst ha
  rw [e, w64 (Lib.bitLen n : Int) (by omega), w64 _ (by omega)]
  omega
theorem bl_wrap0 (x : Nat) (hn : x < Lib.len8tab.size) : wrap64 (wrap64 ((Lib.len8tab[x]'hn).toNat : Int)) = ((Lib.bitLen x : Nat) : Int) := by
  have e := tabAt x hn
  have l := bl_le8 x (by rw [tabSize] at hn; exact hn)
  rw [e, w64 (Lib.bitLen x : Int) (by omega), w64 _ (by omega)]

set_option maxHeartbeats 1000000 in
set_option maxRecDepth 100000 in
theorem len64_int (x : Int) (w : World) (h0 : 0 ≤ x) (h1 : x ≤ 18446744073709551615) :
    Calls Try.prog 79 #[.int .u64 x] w fun e w' => e = .returned (.int .i64 ((Lib.bitLen x.toNat : Nat) : Int)) ∧ w' = w := by
  have hs : (Lib.len8tab.size : Int) = 256 := by rw [tabSize]; rfl
  go_enter Try.func79, Try.ntmps79
  go_wp2
  all_goals (go_ret; refine ⟨congrArg Ending.returned (congrArg (Value.int IntKind.i64) ?_), rfl⟩)
  · exact bl_wrap _ 56 x.toNat _ _ (by omega) rfl (by omega) (by omega) (by omega)
  · exact bl_wrap _ 48 x.toNat _ _ (by omega) rfl (by omega) (by omega) (by omega)
  · exact bl_wrap _ 40 x.toNat _ _ (by omega) rfl (by omega) (by omega) (by omega)
  · exact bl_wrap _ 32 x.toNat _ _ (by omega) rfl (by omega) (by omega) (by omega)
  · exact bl_wrap _ 24 x.toNat _ _ (by omega) rfl (by omega) (by omega) (by omega)
  · exact bl_wrap _ 16 x.toNat _ _ (by omega) rfl (by omega) (by omega) (by omega)
  · exact bl_wrap _ 8 x.toNat _ _ (by omega) rfl (by omega) (by omega) (by omega)
  · exact bl_wrap0 x.toNat _

theorem len64_any (x : Nat) (w : World) (hx : x < 18446744073709551616) :
    Calls Try.prog 79 #[.int .u64 x] w fun e w' => e = .returned (.int .i64 ((Lib.bitLen x : Nat) : Int)) ∧ w' = w := by
  have := len64_int x w (by omega) (by omega)
  rwa [Int.toNat_natCast] at this

end Go.Proofs.Ythoiajpbpoglfaa
