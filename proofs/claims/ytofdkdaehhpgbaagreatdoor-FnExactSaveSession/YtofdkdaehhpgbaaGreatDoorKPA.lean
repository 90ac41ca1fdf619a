/- What holds, and stays so whatever changes outside a range of blocks. -/
import Derived.Test.YtofdkdaehhpgbaaGreatDoorZEX
namespace Go.Proofs.YtofdkdaehhpgbaaGreatDoor
set_option linter.unusedVariables false
set_option linter.unusedSimpArgs false
open Go.RowKit

/-- Changes outside a range of blocks. -/
inductive Outs (lo hi : Nat) : World → World → Prop
  | refl (w : World) : Outs lo hi w w
  | step {w w1 w2 : World} {B1 B2 : Nat} (h : Out B1 B2 w w1) (hd : hi ≤ B1 ∨ B2 ≤ lo) (h2 : Outs lo hi w1 w2) : Outs lo hi w w2
theorem Outs.narrow {lo hi lo' hi' : Nat} {w w' : World} (h : Outs lo' hi' w w') (hl : lo' ≤ lo) (hh : hi ≤ hi') : Outs lo hi w w' := by
  induction h with
  | refl => exact .refl _
  | step ho hd _ ih => exact .step ho (by omega) ih
/-- What holds, and stays so whatever changes outside. -/
def Keep (lo hi : Nat) (P : World → Prop) (w : World) : Prop := ∀ w', Outs lo hi w w' → P w'
theorem Keep.now {lo hi : Nat} {P : World → Prop} {w : World} (h : Keep lo hi P w) : P w := h w (.refl w)
theorem Keep.out {lo hi B1 B2 : Nat} {P : World → Prop} {w w' : World} (h : Keep lo hi P w) (ho : Out B1 B2 w w') (hd : hi ≤ B1 ∨ B2 ≤ lo) : Keep lo hi P w' := fun w2 h2 => h w2 (.step ho hd h2)
theorem Keep.later {lo hi : Nat} {P : World → Prop} {w w' : World} (h : Keep lo hi P w) (hb : Below w.heap.size w w') : Keep lo hi P w' := h.out (B1 := hi) (B2 := hi) (Out.ofB hb) (.inl (Nat.le_refl _))
theorem Keep.wide {lo hi lo' hi' : Nat} {P : World → Prop} {w : World} (h : Keep lo hi P w) (hl : lo' ≤ lo) (hh : hi ≤ hi') : Keep lo' hi' P w := fun w2 h2 => h w2 (h2.narrow hl hh)
theorem Keep.mono {lo hi : Nat} {P P' : World → Prop} {w : World} (h : Keep lo hi P w) (hp : ∀ u, P u → P' u) : Keep lo hi P' w := fun w2 h2 => hp _ (h w2 h2)
theorem Keep.of {lo hi : Nat} {P : World → Prop} {w : World} (h : P w) (hs : ∀ u u' B1 B2, P u → Out B1 B2 u u' → (hi ≤ B1 ∨ B2 ≤ lo) → P u') : Keep lo hi P w := fun w2 h2 => by
  induction h2 with
  | refl => exact h
  | step ho hd _ ih => exact ih (hs _ _ _ _ h ho hd)

end Go.Proofs.YtofdkdaehhpgbaaGreatDoor
