/- What holds, and stays so whatever changes outside a range of blocks. -/
import Derived.Test.YtofdkdaehhpgbaaGreatDoorZEX
namespace Go.Proofs.YtofdkdaehhpgbaaGreatDoor
set_option linter.unusedVariables false
set_option linter.unusedSimpArgs false
open Go.RowKit

/-- Changes outside a range of blocks, so many. -/
def OutsN (lo hi : Nat) : Nat → World → World → Prop
  | 0, w, w' => w' = w
  | n + 1, w, w2 => ∃ w1 B1 B2, Out B1 B2 w w1 ∧ (hi ≤ B1 ∨ B2 ≤ lo) ∧ OutsN lo hi n w1 w2
/-- Changes outside a range of blocks. -/
def Outs (lo hi : Nat) (w w' : World) : Prop := ∃ n, OutsN lo hi n w w'
theorem Outs.refl {lo hi : Nat} (w : World) : Outs lo hi w w := ⟨0, rfl⟩
theorem Outs.step {lo hi : Nat} {w w1 w2 : World} {B1 B2 : Nat} (h : Out B1 B2 w w1) (hd : hi ≤ B1 ∨ B2 ≤ lo) (h2 : Outs lo hi w1 w2) : Outs lo hi w w2 := by
  obtain ⟨n, hn⟩ := h2
  exact ⟨n + 1, w1, B1, B2, h, hd, hn⟩
theorem Outs.narrow {lo hi lo' hi' : Nat} {w w' : World} (h : Outs lo' hi' w w') (hl : lo' ≤ lo) (hh : hi ≤ hi') : Outs lo hi w w' := by
  obtain ⟨n, hn⟩ := h
  induction n generalizing w with
  | zero => exact ⟨0, hn⟩
  | succ n ih =>
    obtain ⟨w1, B1, B2, ho, hd, hr⟩ := hn
    exact .step ho (by omega) (ih hr)
/-- What holds, and stays so whatever changes outside. -/
def Keep (lo hi : Nat) (P : World → Prop) (w : World) : Prop := ∀ w', Outs lo hi w w' → P w'
theorem Keep.now {lo hi : Nat} {P : World → Prop} {w : World} (h : Keep lo hi P w) : P w := h w (.refl w)
theorem Keep.out {lo hi B1 B2 : Nat} {P : World → Prop} {w w' : World} (h : Keep lo hi P w) (ho : Out B1 B2 w w') (hd : hi ≤ B1 ∨ B2 ≤ lo) : Keep lo hi P w' := fun w2 h2 => h w2 (.step ho hd h2)
theorem Keep.later {lo hi : Nat} {P : World → Prop} {w w' : World} (h : Keep lo hi P w) (hb : Below w.heap.size w w') : Keep lo hi P w' := h.out (B1 := hi) (B2 := hi) (Out.ofB hb) (.inl (Nat.le_refl _))
theorem Keep.wide {lo hi lo' hi' : Nat} {P : World → Prop} {w : World} (h : Keep lo hi P w) (hl : lo' ≤ lo) (hh : hi ≤ hi') : Keep lo' hi' P w := fun w2 h2 => h w2 (h2.narrow hl hh)
theorem Keep.mono {lo hi : Nat} {P P' : World → Prop} {w : World} (h : Keep lo hi P w) (hp : ∀ u, P u → P' u) : Keep lo hi P' w := fun w2 h2 => hp _ (h w2 h2)
theorem Keep.of {lo hi : Nat} {P : World → Prop} {w : World} (h : P w) (hs : ∀ u u' B1 B2, P u → Out B1 B2 u u' → (hi ≤ B1 ∨ B2 ≤ lo) → P u') : Keep lo hi P w := fun w2 h2 => by
  obtain ⟨n, hn⟩ := h2
  induction n generalizing w with
  | zero => rw [show w2 = w from hn]; exact h
  | succ n ih =>
    obtain ⟨w1, B1, B2, ho, hd, hr⟩ := hn
    exact ih (hs _ _ _ _ h ho hd) hr

end Go.Proofs.YtofdkdaehhpgbaaGreatDoor
