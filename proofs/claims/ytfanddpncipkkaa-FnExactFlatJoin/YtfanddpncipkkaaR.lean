/- What a law knows of the memory that it has made: boxes of two cells, rows of words in new blocks; how that lasts behind calls. -/
import Derived.Test.YtfanddpncipkkaaQ
import Derived.Deep.RegionHeld3
namespace Go.Proofs.Ytfanddpncipkkaa
set_option linter.unusedVariables false
set_option linter.unusedSimpArgs false
open Go.RowKit

theorem Ba {w wk : World} (h : Below w.heap.size w wk) (o : Obj) : Below w.heap.size w (wk.alloc o) := h.alloc h.size o

/-- The block β is a box of two cells. -/
def Blk (w : World) (β : Nat) (x y : Value) (t : TypeId) : Prop := w.heap[β]? = some (.cells #[x, y] t (0, 0))

theorem Blk.cells {w : World} {β : Nat} {x y : Value} {t : TypeId} (h : Blk w β x y t) : w.cell? ⟨β, 0, none⟩ = some x ∧ w.cell? ⟨β, 1, none⟩ = some y :=
  ⟨cell_of_row w β 0 _ _ _ h, cell_of_row w β 1 _ _ _ h⟩
theorem Blk.lt {w : World} {β : Nat} {x y : Value} {t : TypeId} (h : Blk w β x y t) : β < w.heap.size := lt_of_block h
theorem Blk.next {w w' : World} {β : Nat} {x y : Value} {t : TypeId} (h : Blk w β x y t) (hb : Below w.heap.size w w') : Blk w' β x y t := by
  unfold Blk
  rw [hb.block β h.lt]; exact h
theorem Blk.new (w : World) (x y : Value) (t : TypeId) : Blk (w.alloc (.cells #[x, y] t)) w.heap.size x y t := heap_alloc_new _ _
theorem Blk.alloc {w : World} {β : Nat} {x y : Value} {t : TypeId} (h : Blk w β x y t) (o : Obj) : Blk (w.alloc o) β x y t := h.next ((Below.refl _ _).alloc (Nat.le_refl _) _)

/-- Words in a block of their own whose number lies in lo .. hi - 1, or none at all. -/
def Fr (w : World) (lo hi : Nat) (a : Option Addr) (ys : List Nat) : Prop := (ys = [] ∧ a = none) ∨ ∃ g, a = some ⟨g, 0, none⟩ ∧ lo ≤ g ∧ g < hi ∧ Own w g ys

theorem Fresh.fr {w : World} {lo : Nat} {a : Option Addr} {ys : List Nat} (h : Fresh w lo a ys) : Fr w lo w.heap.size a ys := by
  rcases h with h | ⟨g, rfl, hg, ho⟩
  · exact .inl h
  · exact .inr ⟨g, rfl, hg, ho.lt, ho⟩
theorem Own.fr {w : World} {lo g : Nat} {ys : List Nat} (h : Own w g ys) (hg : lo ≤ g) : Fr w lo w.heap.size (some ⟨g, 0, none⟩) ys := .inr ⟨g, rfl, hg, h.lt, h⟩
theorem Fr.next {w w' : World} {lo hi : Nat} {a : Option Addr} {ys : List Nat} (h : Fr w lo hi a ys) (hb : Below w.heap.size w w') : Fr w' lo hi a ys := by
  rcases h with h | ⟨g, rfl, h1, h2, ho⟩
  · exact .inl h
  · exact .inr ⟨g, rfl, h1, h2, ho.later hb ho.lt⟩
theorem Fr.alloc {w : World} {lo hi : Nat} {a : Option Addr} {ys : List Nat} (h : Fr w lo hi a ys) (o : Obj) : Fr (w.alloc o) lo hi a ys := h.next ((Below.refl _ _).alloc (Nat.le_refl _) _)
theorem Fr.rd {w : World} {lo hi : Nat} {a : Option Addr} {ys : List Nat} (h : Fr w lo hi a ys) (hl : ys.length ≤ 1048576) (hx : ∀ x ∈ ys, x < 18446744073709551616) : Rd w a ys := by
  rcases h with ⟨rfl, rfl⟩ | ⟨g, rfl, h1, h2, ho⟩
  · exact ⟨hl, hx, .inl rfl⟩
  · exact ho.rd hl hx

/-- What marking the words at a has done to the world. -/
def Marked (w w' : World) (a : Option Addr) : Prop := w.grownBy w' (a.map Addr.block)

theorem Blk.mark {w w' : World} {β lo hi : Nat} {x y : Value} {t : TypeId} {a : Option Addr} {ys : List Nat} (h : Blk w β x y t) (hf : Fr w lo hi a ys) (hm : Marked w w' a) (ht : t ≠ 94) : Blk w' β x y t := by
  unfold Blk
  rw [World.grownBy.block hm β h.lt ?_]
  · exact h
  · rcases hf with ⟨_, rfl⟩ | ⟨g, rfl, _, _, ho⟩
    · simp
    · simp only [Option.map_some, ne_eq, Option.some.injEq]
      rintro rfl
      unfold Blk at h
      unfold Own at ho
      rw [h] at ho
      simp at ho
      exact ht ho.2

theorem Fr.mark {w w' : World} {lo hi lo' hi' : Nat} {a b : Option Addr} {ys zs : List Nat} (h : Fr w lo hi a ys) (hf : Fr w lo' hi' b zs) (hm : Marked w w' b) (hd : hi ≤ lo' ∨ hi' ≤ lo) : Fr w' lo hi a ys := by
  rcases h with h | ⟨g, rfl, h1, h2, ho⟩
  · exact .inl h
  · refine .inr ⟨g, rfl, h1, h2, ?_⟩
    unfold Own
    rw [World.grownBy.block hm g ho.lt ?_]
    · exact ho
    · rcases hf with ⟨_, rfl⟩ | ⟨g', rfl, k1, k2, _⟩
      · simp
      · simp only [Option.map_some, ne_eq, Option.some.injEq]
        omega

theorem Marked.below {w0 w w' : World} {lo hi : Nat} {a : Option Addr} {ys : List Nat} (hm : Marked w w' a) (hf : Fr w lo hi a ys) (hb : Below w0.heap.size w0 w) (hl : w0.heap.size ≤ lo) : Below w0.heap.size w0 w' := by
  refine hb.grown hm hb.size ?_
  intro k hk
  rcases hf with ⟨_, rfl⟩ | ⟨g, rfl, k1, k2, _⟩
  · simp at hk
  · simp at hk; omega
theorem Marked.size {w w' : World} {a : Option Addr} (h : Marked w w' a) : w.heap.size ≤ w'.heap.size := World.grownBy.size h



/-- Two rows of which one is the other are told to be the same. -/
theorem eqBits_same (V : Int) (a b : Option Addr) (c d : Nat) (xs : List Nat) (w : World) (hr : Rd w a xs) (hs : Rd w b xs) :
    Calls Try.prog 60 #[.agg #[.int .i64 V, .slice a xs.length c], .agg #[.int .i64 V, .slice b xs.length d]] w fun e w' => e = .returned (.bool true) ∧ Below w.heap.size w w' := by
  have h := eqBits_any V V a b c d xs xs w hr hs
  simpa using h

theorem RetB.fr {w w' : World} {r : Int × List Nat × Bool} {e : Ending} (h : RetB w r e w') : ∃ a c, e = .returned (.tuple #[.agg #[.int .i64 r.1, .slice a r.2.1.length c], .bool r.2.2]) ∧ Fr w' w.heap.size w'.heap.size a r.2.1 ∧ Below w.heap.size w w' := by
  obtain ⟨a, c, he, hf, hb⟩ := h
  exact ⟨a, c, he, hf.fr, hb⟩

end Go.Proofs.Ytfanddpncipkkaa
