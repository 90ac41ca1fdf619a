/- Sort and Compact over a row that is the owner's own. -/
import Derived.Lib.OwnBridge
import Derived.Sort.OwnSortedInts
import Derived.Test.YtheglnkndjheaaaGreatDoorSV
import Derived.Test.YtheglnkndjheaaaGreatDoorEC
namespace Go.Proofs.YtheglnkndjheaaaGreatDoor
set_option linter.unusedVariables false
set_option linter.unusedSimpArgs false
open Go.RowKit Go.Lib Go.Sort

theorem sort_own (w : World) (B : Nat) (v : Value) (xs : List Int) (h : OW w B v xs) (hl : xs.length ≤ 1048576) :
    Calls Tryz.prog 63 #[v] w fun e w' => e = .returned (.tuple #[]) ∧ OW w' B v (xs.mergeSort fun x y => decide (x ≤ y)) ∧ w.grownBy w' v.ownBlock := by
  rcases h.2 with ⟨rfl, hn⟩ | ⟨g, cap, cur, rfl, hB, hh, hcap, hmx, hsz, htk⟩
  · have e : xs = [] := List.eq_nil_of_length_eq_zero hn
    subst e
    refine Calls.mono (AnyM.slices_Sort_int_none Tryz.sortV none 0 w) ?_
    rintro e w' ⟨rfl, rfl⟩
    exact ⟨rfl, by simpa using h, World.grownBy.refl _ _⟩
  · have hH : Holds (Value.int .i64) w g 0 xs.toArray := holds_of_blockI hh (by simpa using htk)
    have hlt : g < w.heap.size := lt_of_block hh
    refine Calls.mono (AnyM.slices_Sort_int Tryz.sortV g 0 cap xs w hH hlt (by omega)) ?_
    rintro e w' ⟨rfl, n, os, rfl⟩
    refine ⟨rfl, ?_, grownBy_sortedI _⟩
    have hs := ownsRow_sortedI (n := n) (os := os) (ts := xs.mergeSort fun x y => decide (x ≤ y)) (ss := xs) (base := B) (List.length_mergeSort xs) hB hh hcap hmx hsz
    unfold OW
    rw [List.length_mergeSort]
    exact hs

theorem compact_own (w : World) (B : Nat) (v : Value) (xs : List Int) (h : OW w B v xs) (hl : xs.length ≤ 1048576) :
    Calls Tryz.prog 64 #[v] w fun e w' => ∃ v', e = .returned v' ∧ OW w' B v' (compact xs) ∧ w.grownBy w' v.ownBlock := by
  rcases h.2 with ⟨rfl, hn⟩ | ⟨g, cap, cur, rfl, hB, hh, hcap, hmx, hsz, htk⟩
  · have e : xs = [] := List.eq_nil_of_length_eq_zero hn
    subst e
    refine Calls.mono (AnyG.slices_Compact_int_empty Tryz.compV none 0 w) ?_
    rintro e w' ⟨rfl, rfl⟩
    exact ⟨_, rfl, by simpa [compact, compactUpTo] using h, World.grownBy.refl _ _⟩
  · have hH : Holds (Value.int .i64) w g 0 xs.toArray := holds_of_blockI hh (by simpa using htk)
    refine Calls.mono (AnyG.slices_Compact_int Tryz.compV g 0 cap xs w hH (by omega) (by omega)) ?_
    rintro e w' ⟨rfl, q, rfl⟩
    have hle := compact_length_le xs
    have hc := ownsRow_putRow (q := q) (k := (compact xs).length) (ys := compact xs ++ List.replicate (xs.length - (compact xs).length) 0) h (by simp; omega) (by omega)
    rw [List.take_left] at hc
    refine ⟨_, rfl, hc, ?_⟩
    refine ⟨rfl, rfl, rfl, by simp [putRow, mapBlock, Sort.ahead], fun k hk hne => ?_⟩
    have : g ≠ k := fun e => hne (by rw [e]; rfl)
    simp [putRow, mapBlock, Sort.ahead, Array.getElem?_modify, this]

end Go.Proofs.YtheglnkndjheaaaGreatDoor
