/- Contracts of the program's own small functions on words: zeroBits, clearAbove. -/
import Derived.Test.YtfanddpncipkkaaJ
import Derived.Laws.ShiftsVar
import Derived.Laws.ShiftsVarLaws
namespace Go.Proofs.Ytfanddpncipkkaa
set_option linter.unusedVariables false
set_option linter.unusedSimpArgs false
open Go.RowKit

theorem grown_set {w wr : World} {g : Nat} (h : w.grownBy wr (some g)) (i : Nat) (v : Value) : w.grownBy (wr.setCell ⟨g, i, none⟩ v) (some g) :=
  ⟨h.os, h.tape, h.output, by simpa using h.size, fun k hk hne => by rw [heap_setCell_other _ _ _ _ (fun e => hne (by rw [e]))]; exact h.block k hk hne⟩
theorem zeroBits_any (V : Nat) (w : World) (h1 : 1 ≤ V) (h2 : V ≤ 4096) :
    Calls Try.prog 96 #[.int .i64 V] w fun e w' => ∃ g, e = .returned (.agg #[.int .i64 V, .slice (some ⟨g, 0, none⟩) ((V + 63) / 64) ((V + 63) / 64)]) ∧ w.heap.size ≤ g ∧ Own w' g (List.replicate ((V + 63) / 64) 0) ∧ Below w.heap.size w w' := by
  have hmk := fun kl kc w => run_make_row' (P := Try.prog) 43 94 (.int .u64 0) 8 Try.underlying43 Try.infoU64 rfl kl kc ((V + 63) / 64) (by omega) (by omega) w
  have ec : (((V + 63) / 64 : Nat) : Int) = ((V : Int) + 63) / 64 := by omega
  simp only [ec] at hmk
  clear ec
  go_enter Try.func96, Try.ntmps96
  go_wp2_with (go_at_call 80; refine (wordsFor_any _ (by omega) (by omega) _).mono ?_; rintro e w' ⟨rfl, rfl⟩)
  refine bodyPost_ret (v := .agg #[.int .i64 V, .slice (some ⟨w.heap.size + 1, 0, none⟩) ((V + 63) / 64) ((V + 63) / 64)]) (by simp [results, Try.results96, go_sem]) rfl ⟨_, rfl, by omega, ?_, ((Below.refl _ _).alloc (Nat.le_refl _) _).alloc (by simp) _⟩
  unfold Own
  rw [← u64s_made]
  exact heap_alloc2_new _ _ _

theorem Own.alloc {w : World} {g : Nat} {xs : List Nat} (h : Own w g xs) (o : Obj) : Own (w.alloc o) g xs := h.later ((Below.refl _ _).alloc (Nat.le_refl _) _) h.lt

/-- The last word without its bits from the width on. -/
def clr (V : Nat) (ys : List Nat) : List Nat := ys.set (ys.length - 1) (ys.getD (ys.length - 1) 0 &&& 18446744073709551615 / 2 ^ (64 * ys.length - V))

theorem clr_len (V : Nat) (ys : List Nat) : (clr V ys).length = ys.length := by simp [clr]
theorem clr_lt (V : Nat) (ys : List Nat) (h : ∀ x ∈ ys, x < 18446744073709551616) : ∀ x ∈ clr V ys, x < 18446744073709551616 := by
  intro x hx
  rcases List.mem_or_eq_of_mem_set hx with h' | h'
  · exact h x h'
  · rw [h']; exact Nat.lt_of_le_of_lt Nat.and_le_left (getD_lt h _)

theorem tb_clr (V : Nat) (ys : List Nat) (h0 : 64 * (ys.length - 1) < V) (h1 : V ≤ 64 * ys.length) (hp : 0 < ys.length) (i : Nat) (hi : i < 64 * ys.length) : tb (clr V ys) i = (decide (i < V) && tb ys i) := by
  rw [clr, tb_set _ _ _ _ (by omega)]
  by_cases h : i / 64 = ys.length - 1
  · rw [if_pos h, Nat.testBit_and, Nat.testBit_div_two_pow, show (18446744073709551615 : Nat) = 2 ^ 64 - 1 by decide, Nat.testBit_two_pow_sub_one]
    unfold tb
    rw [h, Bool.and_comm]
    congr 1
    simp only [decide_eq_decide]
    omega
  · rw [if_neg h]
    have : i < V := by omega
    simp [this]

theorem andMask (y s : Nat) (hy : y < 18446744073709551616) : bits BinOp.and IntKind.u64 (y : Int) (18446744073709551615 / 2 ^ s) = ((y &&& 18446744073709551615 / 2 ^ s : Nat) : Int) := by
  have e : ((18446744073709551615 : Int) / 2 ^ s) = ((18446744073709551615 / 2 ^ s : Nat) : Int) := by simp
  rw [e, bits_and_u64_nat _ _ hy (Nat.lt_of_le_of_lt (Nat.div_le_self _ _) (by decide))]

theorem clearAbove_any (V g c m : Nat) (ys : List Nat) (w : World) (ho : Own w g ys) (hl : ys.length = m + 1) (hm : m < 64) (hx : ∀ x ∈ ys, x < 18446744073709551616) (h0 : 64 * m < V) (h1 : V ≤ 64 * (m + 1)) :
    Calls Try.prog 97 #[.agg #[.int .i64 V, .slice (some ⟨g, 0, none⟩) (m + 1) c]] w fun e w' => e = .returned (.tuple #[]) ∧ Own w' g (clr V ys) ∧ w.grownBy w' (some g) := by
  have ho' : Own (w.alloc (Obj.cells #[Value.int IntKind.i64 V, Value.slice (some ⟨g, 0, none⟩) (m + 1) c] 45)) g ys := ho.later ((Below.refl _ _).alloc (Nat.le_refl _) _) ho.lt
  have hcell := ho.cell (i := m) (by omega)
  have hfr := ho.free m
  have hg := ho.lt
  have hy := getD_lt hx m
  have i0 : (0 : Int) ≤ (m : Int) := by omega
  have i1 : (m : Int) < (m : Int) + 1 := by omega
  generalize hyv : ys.getD m 0 = y at hcell hy
  have HY : Hid (ys.getD m 0 = y) := hyv
  clear hyv
  go_enter Try.func97, Try.ntmps97
  have HO : Hid (Own (w.setCell ⟨g, m, none⟩ (.int .u64 (bits BinOp.and IntKind.u64 (y : Int) (18446744073709551615 / 2 ^ ((m + 1) * 64 - V))))) g (clr V ys)) := by
    have h := ho.put m (y &&& 18446744073709551615 / 2 ^ ((m + 1) * 64 - V))
    rw [← andMask y _ hy] at h
    show Own _ _ _
    rw [clr, hl, show m + 1 - 1 = m by omega, HY.out, Nat.mul_comm 64 (m + 1)]
    exact h
  have HG : Hid (w.grownBy (w.setCell ⟨g, m, none⟩ (.int .u64 (bits BinOp.and IntKind.u64 (y : Int) (18446744073709551615 / 2 ^ ((m + 1) * 64 - V))))) (some g)) := grown_set (World.grownBy.refl _ _) _ _
  clear ho ho' hx
  go_wp2
  go_region
  go_end0
  have hG := HG.out
  refine ⟨rfl, ?_, ⟨hG.os, hG.tape, hG.output, ?_, fun j hj hne => ?_⟩⟩
  · exact HO.out.alloc _
  · show _ ≤ (World.alloc _ _).heap.size
    simp
  · show (World.alloc _ _).heap[j]? = _
    rw [Below.heap_alloc _ _ _ (by simpa using hj)]
    exact hG.block j hj hne

end Go.Proofs.Ytfanddpncipkkaa
