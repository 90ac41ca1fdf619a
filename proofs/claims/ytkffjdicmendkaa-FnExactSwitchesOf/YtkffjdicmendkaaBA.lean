/- What bitAt answers: one bit of a word. -/
import Derived.Test.YtkffjdicmendkaaK
import Derived.Test.YtkffjdicmendkaaI
import Derived.Test.YtkffjdicmendkaaK0
namespace Go.Proofs.Ytkffjdicmendkaa
set_option linter.unusedVariables false
set_option linter.unusedSimpArgs false
open Go.RowKit

theorem andOne64 (y k : Nat) (h : y < 18446744073709551616) : bits BinOp.and IntKind.u64 ((y : Int) / 2 ^ k) 1 = ((y / 2 ^ k % 2 : Nat) : Int) := by
  have e : ((y : Int) / 2 ^ k) = ((y / 2 ^ k : Nat) : Int) := by simp
  have hlt : y / 2 ^ k < 18446744073709551616 := Nat.lt_of_le_of_lt (Nat.div_le_self _ _) h
  rw [e, and_one_u64 _ (Int.natCast_nonneg _) (by omega)]
  omega

theorem bitAt_any (W : Int) (U : Nat) (a : Option Addr) (c : Nat) (xs : List Nat) (w : World) (hr : Rd w a xs) (hU : U < 64 * xs.length) :
    Calls Try.prog 35 #[.agg #[.int .i64 W, .slice a xs.length c], .int .i64 (U : Int)] w fun e w' => e = .returned (.int .u64 (((tb xs U).toNat : Nat) : Int)) ∧ Below w.heap.size w w' := by
  obtain ⟨hl, hx, h | ⟨b, o, rfl, hc⟩⟩ := hr
  · subst h; simp at hU
  have hcell := hc (U / 64) (by omega)
  have hb : b < w.heap.size := block_lt_of_cell hcell
  have htb := tb_div xs U
  have hlt := getD_lt hx (U / 64)
  generalize hy : xs.getD (U / 64) 0 = y at hcell htb hlt
  generalize (tb xs U).toNat = t at htb ⊢
  have Hb : Hid (bits BinOp.and IntKind.u64 ((y : Int) / 2 ^ (U % 64)) 1 = (t : Int)) := by rw [andOne64 y _ hlt, htb]; rfl
  have hlx : U / 64 < xs.length := by omega
  have hlxi : (U : Int) / 64 < (xs.length : Int) := by omega
  clear hc hx hy hlt htb
  go_enter Try.func35, Try.ntmps35
  go_wp2
  go_ret
  exact ⟨by simp [Hb.out], (Below.refl _ _).alloc (Nat.le_refl _) _⟩

end Go.Proofs.Ytkffjdicmendkaa
