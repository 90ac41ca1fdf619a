/- Draws of words: the readers begun, one word, two words. -/
import Derived.Test.YtobkemdffhhlfaaF4
namespace Go.Proofs.Ytobkemdffhhlfaa
set_option linter.unusedVariables false
set_option linter.unusedSimpArgs false
open Go.RowKit

theorem open_any (a : Option Addr) (c : Nat) (bs : List Nat) (w : World) (h : RdB w a bs) :
    Calls Try.prog 63 #[.slice a bs.length c] w fun e w' => ∃ β, e = .returned (.pointer (some ⟨β, 0, none⟩)) ∧ w.heap.size ≤ β ∧ Rr w' β a c bs ∧ Below w.heap.size w w' := by
  have hl := h.1
  go_enter Try.func63, Try.ntmps63
  go_wp2
  go_ret
  refine ⟨w.heap.size, rfl, Nat.le_refl _, ⟨0, Nat.zero_le _, Blk.new _ _ _ _, h.later (Ba (Below.refl _ _) _), fun x e hb => ?_⟩, Ba (Below.refl _ _) _⟩
  obtain ⟨-, -, h | ⟨b, o, rfl, hc⟩⟩ := h
  · exact absurd h hb
  · cases e
    have := block_lt_of_cell (hc 0 (List.length_pos_iff.2 hb))
    simp at this ⊢
    omega

/-- What a draw of a word answers. -/
def RetD (w : World) (e : Ending) (w' : World) : Prop :=
  ∃ a' c' W xs, e = .returned (.agg #[.int .i64 W, .slice a' xs.length c']) ∧ -9223372036854775808 ≤ W ∧ W ≤ 9223372036854775807 ∧ Got w' w.heap.size a' xs ∧ Below w.heap.size w w'

theorem draw_any (a : Option Addr) (c : Nat) (bs : List Nat) (w : World) (h : RdB w a bs) :
    Calls Try.prog 27 #[.slice a bs.length c] w (RetD w) := by
  go_enter Try.func27, Try.ntmps27
  go_wp2_with fail
  refine (open_any a c bs _ (h.later (Ba (Below.refl _ _) _))).mono ?_
  rintro e w1 ⟨β, rfl, hβ, hr1, hb1⟩
  have hk1 := (Blk.new w (Value.int IntKind.i64 0) (Value.slice none 0 0) 26).next hb1
  go_wp2_with fail
  refine (odd_any β a c bs _ hr1).mono ?_
  rintro e w2 ⟨a2, c2, W, xs, rfl, -, hW1, hW2, hg, hr2, hd2⟩
  have hβ' : w.heap.size < β := by simp at hβ; omega
  have hk2 := hk1.far hd2 (by omega)
  have hs1 := hb1.size
  have hg' : Got w2 (w.heap.size + 1) a2 xs := hg.mono (by simp at hs1; omega)
  have hb : Below w.heap.size w w2 := ((Ba (Below.refl _ _) _).trans (hb1.mono (by simp))).trans (hd2.below (by omega) (by simp at hs1; omega))
  obtain ⟨r0, r1⟩ := hk2.cells
  have f0 : w2.frozen? ⟨w.heap.size, 0, none⟩ = false := frozen_of_row w2 _ 0 _ _ hk2
  have f1 : w2.frozen? ⟨w.heap.size, 1, none⟩ = false := frozen_of_row w2 _ 1 _ _ hk2
  clear hb1 hd2 hk1 hr1 hr2 hg
  go_wp2
  have gw : Dw w.heap.size w2 ((w2.setCell ⟨w.heap.size, 0, none⟩ (.int .i64 W)).setCell ⟨w.heap.size, 1, none⟩ (.slice a2 xs.length c2)) := (gsc _ ⟨w.heap.size, 0, none⟩ _).trans (gsc _ ⟨w.heap.size, 1, none⟩ _)
  obtain ⟨d0, d1⟩ := ((hk2.put0 (Value.int IntKind.i64 W)).put1 (Value.slice a2 xs.length c2)).cells
  exact bodyPost_ret (v := .agg #[.int .i64 W, .slice a2 xs.length c2]) (by simp [results, Try.results27, go_sem, d0, d1]) rfl ⟨a2, c2, W, xs, rfl, hW1, hW2, (hg'.far gw (by omega)).mono (by omega), (hb.setCell (Nat.le_refl _) _).setCell (Nat.le_refl _) _⟩

end Go.Proofs.Ytobkemdffhhlfaa
