/- Draws of words: the readers begun, one word, two words. -/
import Derived.Test.YtgdeahaoceifaaaF4
namespace Go.Proofs.Ytgdeahaoceifaaa
set_option linter.unusedVariables false
set_option linter.unusedSimpArgs false
open Go.RowKit

theorem open_any (a : Option Addr) (c : Nat) (bs : List Nat) (w : World) (h : RdB w a bs) :
    Calls Try.prog 57 #[.slice a bs.length c] w fun e w' => ∃ β, e = .returned (.pointer (some ⟨β, 0, none⟩)) ∧ w.heap.size ≤ β ∧ Rr w' β a c bs ∧ Below w.heap.size w w' := by
  have hl := h.1
  go_enter Try.func57, Try.ntmps57
  go_wp2
  go_ret
  refine ⟨w.heap.size, rfl, Nat.le_refl _, ⟨0, Nat.zero_le _, Blk.new _ _ _ _, h.later (Ba (Below.refl _ _) _), fun x e hb => ?_⟩, Ba (Below.refl _ _) _⟩
  obtain ⟨-, -, h | ⟨b, o, rfl, hc⟩⟩ := h
  · exact absurd h hb
  · cases e
    have := block_lt_of_cell (hc 0 (List.length_pos_iff.2 hb))
    simp at this ⊢
    omega

/-- What a draw of a word answers. -/
def RetD (w : World) (e : Ending) (w' : World) : Prop :=
  ∃ a' c' W xs, e = .returned (.agg #[.int .i64 W, .slice a' xs.length c']) ∧ -9223372036854775808 ≤ W ∧ W ≤ 9223372036854775807 ∧ Got w' w.heap.size a' xs ∧ Below w.heap.size w w'


end Go.Proofs.Ytgdeahaoceifaaa
