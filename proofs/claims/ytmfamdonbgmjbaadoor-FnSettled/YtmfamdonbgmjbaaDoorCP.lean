/- Contracts of the laws' own small functions on rows of flags: copied, compared. -/
import Derived.Test.YtmfamdonbgmjbaaDoorZGAB
import Derived.Test.YtmfamdonbgmjbaaDoorZGAA
import Derived.Test.YtmfamdonbgmjbaaDoorZGAC
import Derived.WalkKit
import Derived.WalkSpells
import Derived.Deep.QuietTactic
import Derived.BigQuiet
import Derived.Outline
import Derived.WalkSmall
import Derived.Deep.OwnRows
namespace Go.Proofs.YtmfamdonbgmjbaaDoor
set_option linter.unusedVariables false
set_option linter.unusedSimpArgs false
open Go.RowKit

theorem Tryd.infoFlag : (Tryd.prog.info? 4).map (fun i => (i.zero, i.size, i.bytes)) = some (some (.bool false), 1, 1) := by kernel_rfl


/-- A slice whose numbers are ks, wherever it lies. -/
def RdFl (w : World) (a : Option Addr) (ks : List Bool) : Prop :=
  ks.length ≤ 1048576 ∧ (ks = [] ∨ ∃ b o, a = some ⟨b, o, none⟩ ∧ ∀ i, i < ks.length → w.cell? ⟨b, o + i, none⟩ = some (.bool (ks.getD i false)))

theorem RdFl.later {w w' : World} {a : Option Addr} {ks : List Bool} (h : RdFl w a ks) (hb : Below w.heap.size w w') : RdFl w' a ks := by
  obtain ⟨h1, h3⟩ := h
  refine ⟨h1, ?_⟩
  rcases h3 with h3 | ⟨b, o, rfl, hc⟩
  · exact .inl h3
  · refine .inr ⟨b, o, rfl, fun i hi => ?_⟩
    have := hc i hi
    rw [hb.cell (p := ⟨b, o + i, none⟩) (by exact block_lt_of_cell this)]
    exact this

def flgs (ks : List Bool) : Array Value := (ks.map fun (k : Bool) => Value.bool k).toArray

theorem flgs_size (ks : List Bool) : (flgs ks).size = ks.length := by simp [flgs]
theorem flgs_get (ks : List Bool) (i : Nat) (h : i < ks.length) : (flgs ks)[i]? = some (.bool (ks.getD i false)) := by simp [flgs, List.getD, h]
theorem flgs_set (ks : List Bool) (i : Nat) (k : Bool) : (flgs ks).setIfInBounds i (.bool k) = flgs (ks.set i k) := by
  simp [flgs, List.setIfInBounds_toArray, List.map_set]
theorem flgs_made (n : Nat) : madeCells #[Value.bool false] n = flgs (List.replicate n false) := by
  apply Array.toList_inj.1
  rw [toList_madeCells_one]
  simp [flgs]

/-- The block g holds just the numbers ks, and may be written. -/
def OwnFl (w : World) (g : Nat) (ks : List Bool) : Prop := w.heap[g]? = some (.cells (flgs ks) 4 (0, 0))

theorem OwnFl.cell {w : World} {g : Nat} {ks : List Bool} (h : OwnFl w g ks) {i : Nat} (hi : i < ks.length) : w.cell? ⟨g, i, none⟩ = some (.bool (ks.getD i false)) := by
  rw [cell_of_row w g i _ _ _ h, flgs_get _ _ hi]
theorem OwnFl.free {w : World} {g : Nat} {ks : List Bool} (h : OwnFl w g ks) (i : Nat) : w.frozen? ⟨g, i, none⟩ = false := frozen_of_row w g i _ _ h
theorem OwnFl.lt {w : World} {g : Nat} {ks : List Bool} (h : OwnFl w g ks) : g < w.heap.size := lt_of_block h
theorem OwnFl.put {w : World} {g : Nat} {ks : List Bool} (h : OwnFl w g ks) (i : Nat) (k : Bool) : OwnFl (w.setCell ⟨g, i, none⟩ (.bool k)) g (ks.set i k) := by
  unfold OwnFl
  rw [heap_setCell_same w g i _ _ _ h, flgs_set]
theorem OwnFl.rd {w : World} {g : Nat} {ks : List Bool} (h : OwnFl w g ks) (hl : ks.length ≤ 1048576) : RdFl w (some ⟨g, 0, none⟩) ks :=
  ⟨hl, .inr ⟨g, 0, rfl, fun i hi => by rw [Nat.zero_add]; exact h.cell hi⟩⟩
theorem OwnFl.later {w w' : World} {g B : Nat} {ks : List Bool} (h : OwnFl w g ks) (hb : Below B w w') (hg : g < B) : OwnFl w' g ks := by
  unfold OwnFl
  rw [hb.block g hg]; exact h
theorem OwnFl.other {w : World} {g : Nat} {ks : List Bool} (h : OwnFl w g ks) {a : Addr} (ha : g ≠ a.block) (v : Value) : OwnFl (w.setCell a v) g ks := by
  unfold OwnFl
  rw [heap_setCell_other w a g v ha]; exact h

theorem take_setFl (xs : List Bool) (k : Nat) (h : k < xs.length) :
    (xs.take k ++ List.replicate (xs.length - k) false).set k (xs.getD k false) = xs.take (k + 1) ++ List.replicate (xs.length - (k + 1)) false := by
  apply List.ext_getElem?
  intro i
  simp only [List.getElem?_set, List.getElem?_append, List.getElem?_take, List.length_take, List.getElem?_replicate, List.length_append, List.length_replicate, List.getD]
  split <;> split <;> split <;> (try split) <;> (try split) <;> (try omega) <;> simp_all <;> (try omega)


theorem eqBoolS_any (a b : Option Addr) (c d : Nat) (xs ys : List Bool) (w : World) (hr : RdFl w a xs) (hs : RdFl w b ys) :
    Calls Tryd.prog 19 #[.slice a xs.length c, .slice b ys.length d] w fun e w' => e = .returned (.bool (decide (xs = ys))) ∧ Below w.heap.size w w' := by
  have hl1 := hr.1
  have hl2 := hs.1
  by_cases hl : xs.length = ys.length
  · have hne : ((xs.length : Int) != (ys.length : Int)) = false := by simp [hl]
    have HL : Hid (xs.length = ys.length) := hl
    clear hl
    go_enter Tryd.func19, Tryd.ntmps19
    go_wp2
    clear hne
    go_loopw [5] (fun i wr => ∃ k : Nat, k ≤ xs.length ∧ i = .int .i64 k ∧ (∀ j, j < k → xs.getD j false = ys.getD j false) ∧ Below w.heap.size w wr) (fun i _ => xs.length - (intOf i).toNat)
    case atStart => exact ⟨0, Nat.zero_le _, rfl, fun j h => by omega, Below.refl _ _⟩
    case round =>
      obtain ⟨k, hk, rfl, hz, hbel⟩ := hrel
      have HZ := show Hid _ from hz
      have HB := show Hid _ from hbel
      by_cases hlt : k < xs.length
      · obtain ⟨-, h | ⟨b1, o1, rfl, hc1⟩⟩ := hr
        · subst h; simp at hlt
        have hlt2 : k < ys.length := by have := HL.out; omega
        obtain ⟨-, h | ⟨b2, o2, rfl, hc2⟩⟩ := hs
        · subst h; simp at hlt2
        have e1 := hc1 k hlt
        have e2 := hc2 k hlt2
        have f1 : wr.cell? ⟨b1, o1 + k, none⟩ = some (.bool (xs.getD k false)) := by rw [hbel.cell (by exact block_lt_of_cell e1)]; exact e1
        have f2 : wr.cell? ⟨b2, o2 + k, none⟩ = some (.bool (ys.getD k false)) := by rw [hbel.cell (by exact block_lt_of_cell e2)]; exact e2
        have hxe : decide (xs = ys) = false ∨ xs.getD k false = ys.getD k false := by
          by_cases h : xs = ys
          · exact .inr (by rw [h])
          · exact .inl (by simp [h])
        clear hc1 hc2 hz hbel e1 e2
        have i0 : (k : Int) < (xs.length : Int) := by omega
        have i1 : (k : Int) < (ys.length : Int) := by omega
        generalize hx1 : xs.getD k false = x1 at *
        generalize hy1 : ys.getD k false = y1 at *
        have HX : Hid (xs.getD k false = x1) := hx1
        have HY : Hid (ys.getD k false = y1) := hy1
        clear hx1 hy1
        by_cases hxy : x1 = y1
        · have hb : (!x1 == y1) = false := by simp [hxy]
          have HE : Hid (x1 = y1) := hxy
          clear hxe hxy
          go_wp2_with fail
          go_quiet (fail)
          go_wp2
          go_roundw
          case rel =>
            refine ⟨k + 1, by omega, by go_num, fun j hj => ?_, below_drewN HB.out _⟩
            by_cases hj' : j = k
            · rw [hj', HX.out, HY.out]; exact HE.out
            · exact HZ.out j (by omega)
          case measure => simp [intOf]; omega
        · have hb : (!x1 == y1) = true := by cases x1 <;> cases y1 <;> simp_all
          have HE : Hid (decide (xs = ys) = false) := by
            rcases hxe with h | h
            · exact h
            · exact absurd h hxy
          clear hxe hxy
          go_wp2_with fail
          go_quiet (fail)
          go_wp2
          go_ret
          exact ⟨ret_bool HE.out.symm, below_drewN HB.out _⟩
      · clear hz hbel
        go_wp2
        go_ret
        refine ⟨ret_bool ?_, HB.out⟩
        have he : xs = ys := by
          refine List.ext_getElem HL.out fun j h1 h2 => ?_
          have := HZ.out j (by omega)
          simpa [List.getD, h1, h2] using this
        simp [he]
  · have hne : ((xs.length : Int) != (ys.length : Int)) = true := by simp; omega
    have hx : xs ≠ ys := fun h => hl (by rw [h])
    go_enter Tryd.func19, Tryd.ntmps19
    go_wp2
    go_ret
    exact ⟨ret_bool (by simp [hx]), Below.refl _ _⟩

end Go.Proofs.YtmfamdonbgmjbaaDoor
