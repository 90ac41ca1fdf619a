/- Contracts of the laws' big and sameBits. -/
import Derived.Test.YtffcklobignlfaaGAH
namespace Go.Proofs.Ytffcklobignlfaa
set_option linter.unusedVariables false
set_option linter.unusedSimpArgs false
open Go.RowKit
theorem big_any (a : Option Addr) (n c : Nat) (w : World) (hn : n ≤ 9223372036854775807) :
  Calls Try.prog 4 #[.slice a n c] w fun e w' => e = .returned (.bool (decide (1048576 < n))) ∧ w' = w := by
 by_cases h : 1048576 < n
 ·have hi : (1048576 : Int) < (n : Int) := by omega
  go_enter Try.func4, Try.ntmps4
  go_wp2
  go_ret
  exact ⟨by simp [h], rfl⟩
 ·have hi : ¬ (1048576 : Int) < (n : Int) := by omega
  go_enter Try.func4, Try.ntmps4
  go_wp2
  go_ret
  exact ⟨by simp [h], rfl⟩
set_option maxHeartbeats 1000000 in
set_option maxRecDepth 100000 in
theorem same_any (V W : Int) (a b : Option Addr) (c d : Nat) (xs ys : List Nat) (w : World) (hr : Rd w a xs) (hs : Rd w b ys) :
  Calls Try.prog 23 #[.agg #[.int .i64 V, .slice a xs.length c], .agg #[.int .i64 W, .slice b ys.length d]] w fun e w' => e = .returned (.bool (decide (V = W ∧ xs = ys))) ∧ Below w.heap.size w w' := by
 have h2 : Below w.heap.size w ((w.alloc (Obj.cells #[.int IntKind.i64 V, .slice a xs.length c] 32)).alloc (Obj.cells #[.int IntKind.i64 W, .slice b ys.length d] 32)) := Ba (Ba (Below.refl _ _) _) _
 have hl1 := hr.1
 have hl2 := hs.1
 by_cases hV : V = W
 ·have hne : (V != W) = false := by simp [hV]
  have HV : Hid (V = W) := hV
  clear hV
  by_cases hl : xs.length = ys.length
  ·have hnl : ((xs.length : Int) != (ys.length : Int)) = false := by simp [hl]
   have HL : Hid (xs.length = ys.length) := hl
   clear hl
   go_enter Try.func23, Try.ntmps23
   go_wp2
   clear hne hnl
   have bB0 := Blk.new1 w (Obj.cells #[.int IntKind.i64 V, .slice a xs.length c] 32) (Value.int IntKind.i64 W) (Value.slice b ys.length d) 32
   have bA0 := (Blk.new w (Value.int IntKind.i64 V) (Value.slice a xs.length c) 32).alloc (Obj.cells #[.int IntKind.i64 W, .slice b ys.length d] 32)
   generalize (w.alloc (Obj.cells #[.int IntKind.i64 V, .slice a xs.length c] 32)).alloc (Obj.cells #[.int IntKind.i64 W, .slice b ys.length d] 32) = w0 at *
   have h2' : Hid (Below w.heap.size w w0) := h2
   have hr' := hr.later h2
   have hs' := hs.later h2
   go_loopw [5] (fun i wr => ∃ k : Nat, k ≤ xs.length ∧ i = .int .i64 k ∧ (∀ j, j < k → xs.getD j 0 = ys.getD j 0) ∧ Below w0.heap.size w0 wr) (fun i _ => xs.length - (intOf i).toNat)
   case atStart => exact ⟨0, Nat.zero_le _, rfl, fun j h => by omega, Below.refl _ _⟩
   case round =>
    obtain ⟨k, hk, rfl, hz, hbel⟩ := hrel
    have HZ := show Hid _ from hz
    have HB := show Hid _ from hbel
    obtain ⟨k0, k1⟩ := (bA0.next hbel).cells
    obtain ⟨l0, l1⟩ := (bB0.next hbel).cells
    by_cases hlt : k < xs.length
    ·obtain ⟨-, -, h | ⟨b1, o1, rfl, hc1⟩⟩ := hr'
     ·subst h; simp at hlt
     have hlt2 : k < ys.length := by have := HL.out; omega
     obtain ⟨-, -, h | ⟨b2, o2, rfl, hc2⟩⟩ := hs'
     ·subst h; simp at hlt2
     have e1 := hc1 k hlt
     have e2 := hc2 k hlt2
     have f1 : wr.cell? ⟨b1, o1 + k, none⟩ = some (.int .u64 ((xs.getD k 0 : Nat) : Int)) := by rw [hbel.cell (by exact block_lt_of_cell e1)]; exact e1
     have f2 : wr.cell? ⟨b2, o2 + k, none⟩ = some (.int .u64 ((ys.getD k 0 : Nat) : Int)) := by rw [hbel.cell (by exact block_lt_of_cell e2)]; exact e2
     have hxe : decide (xs = ys) = false ∨ xs.getD k 0 = ys.getD k 0 := by
      by_cases h : xs = ys
      ·exact .inr (by rw [h])
      ·exact .inl (by simp [h])
     clear hc1 hc2 hz hbel e1 e2 hr hs h2 bA0 bB0
     have i0 : (k : Int) < (xs.length : Int) := by omega
     have i1 : (k : Int) < (ys.length : Int) := by omega
     generalize hx1 : xs.getD k 0 = x1 at *
     generalize hy1 : ys.getD k 0 = y1 at *
     have HX : Hid (xs.getD k 0 = x1) := hx1
     have HY : Hid (ys.getD k 0 = y1) := hy1
     clear hx1 hy1
     by_cases hxy : x1 = y1
     ·have hb : ((x1 : Int) != (y1 : Int)) = false := by simp [hxy]
      have HE : Hid (x1 = y1) := hxy
      clear hxe hxy
      go_wp2_with fail
      go_quiet (fail)
      go_wp2
      go_roundw
      case rel =>
       refine ⟨k + 1, by omega, by go_num, fun j hj => ?_, below_drewN HB.out _⟩
       by_cases hj' : j = k
       ·rw [hj', HX.out, HY.out]; exact HE.out
       ·exact HZ.out j (by omega)
      case measure => simp [intOf]; omega
     ·have hb : ((x1 : Int) != (y1 : Int)) = true := by simp; omega
      have HE : Hid (decide (xs = ys) = false) := by
       rcases hxe with h | h
       ·exact h
       ·exact absurd h hxy
      clear hxe hxy
      go_wp2_with fail
      go_quiet (fail)
      go_wp2
      go_ret
      refine ⟨ret_bool ?_, below_drewN (h2'.out.trans (HB.out.mono h2'.out.size)) _⟩
      have := HE.out
      simp at this
      simp [this]
    ·clear hz hbel
     go_wp2
     go_ret
     refine ⟨ret_bool ?_, h2'.out.trans (HB.out.mono h2'.out.size)⟩
     have he : xs = ys := by
      refine List.ext_getElem HL.out fun j h1 h2 => ?_
      have := HZ.out j (by omega)
      simpa [List.getD, h1, h2] using this
     simp [he, HV.out]
  ·have hnl : ((xs.length : Int) != (ys.length : Int)) = true := by simp; omega
   have hx : xs ≠ ys := fun h => hl (by rw [h])
   clear hl
   go_enter Try.func23, Try.ntmps23
   go_wp2
   go_ret
   exact ⟨ret_bool (by simp [hx]), h2⟩
 ·have hne : (V != W) = true := by simp [hV]
  go_enter Try.func23, Try.ntmps23
  go_wp2
  go_ret
  exact ⟨ret_bool (by simp [hV]), h2⟩

end Go.Proofs.Ytffcklobignlfaa
