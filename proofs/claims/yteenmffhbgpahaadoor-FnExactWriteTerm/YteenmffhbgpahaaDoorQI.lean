/- The given l3Widths, where it goes on. -/
import Derived.Test.YteenmffhbgpahaaDoorQH
namespace Go.Proofs.YteenmffhbgpahaaDoor
set_option linter.unusedVariables false
set_option linter.unusedSimpArgs false
open Go.RowKit

/-- What stays through the loops of l3Widths. -/
structure Lw (w : World) (b : Option Addr) (n c2 U : Nat) (q : Nat → Bool) (wr : World) : Prop where
  box : wr.heap[w.heap.size]? = some (.cells #[.slice b n c2] 33 (0, 0))
  non : wr.heap[w.heap.size + 1]? = some (.cells #[] 2 (0, 0))
  bel : Below w.heap.size w wr
  row : ∃ f, wr.rowIs U 4 n f ∧ ∀ j, j < n → f j = .bool (q j)

theorem Lw.lt {w : World} {b : Option Addr} {n c2 U : Nat} {q : Nat → Bool} {wr : World} (h : Lw w b n c2 U q wr) : U < wr.heap.size := by
  obtain ⟨f, ⟨cc, hh, -⟩, -⟩ := h.row
  exact lt_of_block hh

theorem Lw.cell {w : World} {b : Option Addr} {n c2 U : Nat} {q : Nat → Bool} {wr : World} (h : Lw w b n c2 U q wr) : wr.cell? ⟨w.heap.size, 0, none⟩ = some (.slice b n c2) := by
  simp [World.cell?, h.box]

theorem Lw.none' {w : World} {b : Option Addr} {n c2 U : Nat} {q : Nat → Bool} {wr : World} (h : Lw w b n c2 U q wr) : OW wr (w.heap.size + 1) (.slice (some ⟨w.heap.size + 1, 0, none⟩) 0 0) [] := ⟨rfl, .inr ⟨w.heap.size + 1, 0, #[], rfl, Nat.le_refl _, h.non, Nat.le_refl _, by unfold maxLen; omega, rfl, rfl⟩⟩

theorem Lw.later {w : World} {b : Option Addr} {n c2 U : Nat} {q : Nat → Bool} {wr wr' : World} (h : Lw w b n c2 U q wr) (hb : Below wr.heap.size wr wr') : Lw w b n c2 U q wr' where
  box := by rw [hb.block _ (lt_of_block h.box)]; exact h.box
  non := by rw [hb.block _ (lt_of_block h.non)]; exact h.non
  bel := h.bel.trans (hb.mono h.bel.size)
  row := by
    obtain ⟨f, hf, hq⟩ := h.row
    exact ⟨f, World.rowIs.of_block hf (hb.block _ h.lt), hq⟩

/-- .. through an append to a row of whole numbers that lies higher. -/
theorem Lw.grown {w : World} {b : Option Addr} {n c2 U B : Nat} {q : Nat → Bool} {wr wr' : World} {v : Value} {xs : List Int} (h : Lw w b n c2 U q wr) (ho : OW wr B v xs) (hB : w.heap.size + 1 < B) (hg : wr.grownBy wr' v.ownBlock) : Lw w b n c2 U q wr' where
  box := by rw [hg.block _ (lt_of_block h.box) (fun e => by have := ho.lt e.symm; omega)]; exact h.box
  non := by rw [hg.block _ (lt_of_block h.non) (fun e => by have := ho.lt e.symm; omega)]; exact h.non
  bel := ⟨hg.os.trans h.bel.os, hg.tape.trans h.bel.tape, hg.output.trans h.bel.output, Nat.le_trans h.bel.size hg.size, fun k hk => (hg.block k (Nat.lt_of_lt_of_le hk h.bel.size) (fun e => by have := ho.lt e.symm; omega)).trans (h.bel.block k hk)⟩
  row := by
    obtain ⟨f, ⟨cc, hh, h1, h2⟩, hq⟩ := h.row
    refine ⟨f, World.rowIs.of_block ⟨cc, hh, h1, h2⟩ (hg.block _ (lt_of_block hh) ?_), hq⟩
    exact ho.typed hh (by decide)

/-- .. where a place of the row of flags is set. -/
theorem Lw.mark {w : World} {b : Option Addr} {n c2 U : Nat} {q : Nat → Bool} {wr : World} (h : Lw w b n c2 U q wr) (hU : w.heap.size + 1 < U) (m : Nat) : Lw w b n c2 U (fun j => if j = m then true else q j) (wr.setCell ⟨U, m, none⟩ (.bool true)) where
  box := by rw [heap_setCell_other _ _ _ _ (by simp; omega)]; exact h.box
  non := by rw [heap_setCell_other _ _ _ _ (by simp; omega)]; exact h.non
  bel := h.bel.setCell (by simp; omega) _
  row := by
    obtain ⟨f, hf, hq⟩ := h.row
    refine ⟨_, World.rowIs.set hf m (.bool true), fun j hj => ?_⟩
    by_cases e : j = m
    · simp [e]
    · simp [e, hq j hj]

theorem OW.mono {w : World} {B B' : Nat} {v : Value} {xs : List Int} (h : OW w B v xs) (hB : B' ≤ B) : OW w B' v xs := by
  refine ⟨h.1, ?_⟩
  rcases h.2 with h | ⟨g, cap, cur, h1, h2, h3⟩
  · exact .inl h
  · exact .inr ⟨g, cap, cur, h1, Nat.le_trans hB h2, h3⟩

theorem OW.mark {w : World} {B : Nat} {v : Value} {xs : List Int} (h : OW w B v xs) {U : Nat} {f : Nat → Value} {n : Nat} (hr : w.rowIs U 4 n f) (i : Nat) (x : Value) : OW (w.setCell ⟨U, i, none⟩ x) B v xs := by
  obtain ⟨cc, hh, -⟩ := hr
  have hne := h.typed hh (by decide)
  refine World.ownsRow.kept (row := some U) h ⟨rfl, rfl, rfl, by simp, fun k hk hn => heap_setCell_other _ _ _ _ (fun e => hn (by simp at e; rw [e]))⟩ (.inr (fun e => hne e.symm))

end Go.Proofs.YteenmffhbgpahaaDoor
