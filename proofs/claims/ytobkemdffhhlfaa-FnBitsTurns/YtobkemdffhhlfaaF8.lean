/- Draws of a word and a number. -/
import Derived.Test.YtobkemdffhhlfaaF7
namespace Go.Proofs.Ytobkemdffhhlfaa
set_option linter.unusedVariables false
set_option linter.unusedSimpArgs false
open Go.RowKit

theorem lit_cell (w4 : World) (y : Nat) (hy : y = 0 ∨ y < 2) : ∃ z : Nat, 1 ≤ z ∧ z ≤ 4194304 ∧ (#[Value.int IntKind.i64 200, Value.int IntKind.i64 4096] : Array Value)[y]? = some (.int .i64 z) ∧ (w4.alloc (Obj.cells #[Value.int IntKind.i64 200, Value.int IntKind.i64 4096] 2)).cell? ⟨w4.heap.size, y, none⟩ = some (.int .i64 z) := by
  have hrow := heap_alloc_new w4 (Obj.cells #[Value.int IntKind.i64 200, Value.int IntKind.i64 4096] 2)
  rw [cell_of_row _ _ y _ _ _ hrow]
  obtain rfl | rfl : y = 0 ∨ y = 1 := by omega
  · exact ⟨200, by omega, by omega, rfl, rfl⟩
  · exact ⟨4096, by omega, by omega, rfl, rfl⟩

theorem lit_row {β : Nat} {w3 w4 : World} (h : Dw β (w3.alloc (Obj.cells #[Value.int IntKind.i64 200, Value.int IntKind.i64 4096] 2)) w4) (hβ : β < w3.heap.size) {y : Nat} (hy : y = 0 ∨ y < 2) : ∃ z : Nat, 1 ≤ z ∧ z ≤ 4194304 ∧ w4.cell? ⟨w3.heap.size, y, none⟩ = some (.int .i64 z) := by
  rw [cell_of_row w4 _ y _ _ _ (h.row hβ)]
  obtain rfl | rfl : y = 0 ∨ y = 1 := by omega
  · exact ⟨200, by omega, by omega, rfl⟩
  · exact ⟨4096, by omega, by omega, rfl⟩

set_option maxHeartbeats 2000000 in
set_option maxRecDepth 100000 in
theorem drawTurn_any (a : Option Addr) (c : Nat) (bs : List Nat) (w : World) (h : RdB w a bs) :
    Calls Try.prog 32 #[.slice a bs.length c] w fun e w' => ∃ a' c' W xs n, e = .returned (.tuple #[.agg #[.int .i64 W, .slice a' xs.length c'], .int .i64 n]) ∧ -9223372036854775808 ≤ W ∧ W ≤ 9223372036854775807 ∧ -9223372036854775808 ≤ n ∧ n ≤ 9223372036854775807 ∧ Got w' w.heap.size a' xs ∧ Below w.heap.size w w' := by
  go_enter Try.func32, Try.ntmps32
  go_wp2_with fail
  refine (open_any a c bs _ (h.later (Ba (Below.refl _ _) _))).mono ?_
  rintro e w1 ⟨β, rfl, hβ, hr1, hb1⟩
  have hk1 := (Blk.new w (Value.int IntKind.i64 0) (Value.slice none 0 0) 26).next hb1
  go_wp2_with fail
  refine (odd_any β a c bs _ hr1).mono ?_
  rintro e w2 ⟨a2, c2, W, xs, rfl, -, hW1, hW2, hg, hr2, hd2⟩
  have hβ' : w.heap.size < β := by simp at hβ; omega
  have hk2 := hk1.far hd2 (by omega)
  have hs1 := hb1.size
  have hg' := hg
  have hβ1 := hr1.lt
  have hRw1 : w.heap.size < w1.heap.size := by simp at hs1; omega
  have hb : Below w.heap.size w w2 := ((Ba (Below.refl _ _) _).trans (hb1.mono (by simp))).trans (hd2.below (by omega) (by simp at hs1; omega))
  obtain ⟨r0, r1⟩ := hk2.cells
  have f0 : w2.frozen? ⟨w.heap.size, 0, none⟩ = false := frozen_of_row w2 _ 0 _ _ hk2
  have f1 : w2.frozen? ⟨w.heap.size, 1, none⟩ = false := frozen_of_row w2 _ 1 _ _ hk2
  clear hb1 hd2 hk1 hr1 hg
  go_wp2_with fail
  have hB3 := Blk.new w2 (Value.int IntKind.i64 W) (Value.slice a2 xs.length c2) 26
  have hR3 := hk2.alloc (Obj.cells #[Value.int IntKind.i64 W, Value.slice a2 xs.length c2] 26)
  have hr3 := hr2.later (Ba (Below.refl _ _) (Obj.cells #[Value.int IntKind.i64 W, Value.slice a2 xs.length c2] 26))
  have hg3 := hg'.later (Ba (Below.refl _ _) (Obj.cells #[Value.int IntKind.i64 W, Value.slice a2 xs.length c2] 26))
  have hb3 := Ba hb (Obj.cells #[Value.int IntKind.i64 W, Value.slice a2 xs.length c2] 26)
  have hβB : β < w2.heap.size := hr2.lt
  have hRB : w.heap.size < w2.heap.size := hk2.lt
  clear hr2 hk2 hg' hb r0 r1 f0 f1
  generalize w2.alloc (Obj.cells #[Value.int IntKind.i64 W, Value.slice a2 xs.length c2] 26) = w3 at *
  generalize w2.heap.size = B at *
  obtain ⟨b30, b31⟩ := hB3.cells
  have lB3 := hB3.lt
  have lR3 := hR3.lt
  have hr3d : Rr w3.drew β a c bs := hr3
  have hβ3 := hr3.lt
  first | (go_region_with
    (first
      | (go_at_call 67; refine (below_any 2 (by omega) β a c bs _ ?_).mono ?_; exact hr3d; rintro e w4 ⟨y, rfl, hy, hr4, hd4⟩; have hd34 : Dw β w3 w4 := hd4.undrew; obtain ⟨z, hz1, hz2, hz3, hz4⟩ := lit_cell w4 y hy; have hB4 := hB3.far hd34 (by omega); have hR4 := hR3.far hd34 (by omega); obtain ⟨b40, b41⟩ := hB4.cells; have lB4 := hB4.lt; have lR4 := hR4.lt; have hyi : (y : Int) < 2 := (by omega))
      | (go_at_call 67; refine (below_any 2 (by omega) β a c bs _ ?_).mono ?_; exact hr3d.later (Ba (Below.refl _ _) _); rintro e w4 ⟨y, rfl, hy, hr4, hd4⟩; have hd34 : Dw β w3 w4 := (Dw.of (Ba (Below.refl _ _) _)).trans hd4.undrew; obtain ⟨z, hz1, hz2, hz3⟩ := lit_row hd4.undrew hβ3 hy; have hB4 := hB3.far hd34 (by omega); have hR4 := hR3.far hd34 (by omega); obtain ⟨b40, b41⟩ := hB4.cells; have lB4 := hB4.lt; have lR4 := hR4.lt; have hyi : (y : Int) < 2 := (by omega))
      | (go_at_call 78; refine (off_any 0 z (by omega) hz2 β a c bs _ ?_).mono ?_; (first | exact hr4 | exact hr4.later (Ba (Below.refl _ _) _)); rintro e w5 ⟨n, rfl, hn1, hn2, hr5, hd5⟩; have hd35 : Dw β w3 w5 := (by first | exact hd34.trans hd5 | exact (hd34.alloc _).trans hd5); have hB5 := hB3.far hd35 (by omega); have hR5 := hR3.far hd35 (by omega); have hg5 := hg3.far hd35 (by omega); obtain ⟨b50, b51⟩ := hB5.cells; obtain ⟨r50, r51⟩ := hR5.cells; have f50 : w5.frozen? ⟨w.heap.size, 0, none⟩ = false := frozen_of_row w5 _ 0 _ _ hR5; have f51 : w5.frozen? ⟨w.heap.size, 1, none⟩ = false := frozen_of_row w5 _ 1 _ _ hR5; have lB5 := hB5.lt; have lR5 := hR5.lt))) | fail
  all_goals have gw : Dw w.heap.size w5 ((w5.setCell ⟨w.heap.size, 0, none⟩ (.int .i64 W)).setCell ⟨w.heap.size, 1, none⟩ (.slice a2 xs.length c2)) := (gsc _ ⟨w.heap.size, 0, none⟩ _).trans (gsc _ ⟨w.heap.size, 1, none⟩ _)
  all_goals have hbb : Below w.heap.size w w5 := hb3.trans (hd35.below (by omega) (by omega))
  all_goals obtain ⟨d0, d1⟩ := ((hR5.put0 (Value.int IntKind.i64 W)).put1 (Value.slice a2 xs.length c2)).cells
  all_goals go_wp2
  all_goals exact bodyPost_ret (v := .tuple #[.agg #[.int .i64 W, .slice a2 xs.length c2], .int .i64 n]) (by simp [results, Try.results32, go_sem, d0, d1]) rfl ⟨a2, c2, W, xs, n, rfl, hW1, hW2, hn1, hn2, (hg5.far gw hRw1).mono (Nat.le_of_lt hRw1), (hbb.setCell (Nat.le_refl _) _).setCell (Nat.le_refl _) _⟩

end Go.Proofs.Ytobkemdffhhlfaa
