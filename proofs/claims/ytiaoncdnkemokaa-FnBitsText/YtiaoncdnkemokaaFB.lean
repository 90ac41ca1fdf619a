/- DrawWriteBits is a draw of a word. -/
import Derived.Test.YtiaoncdnkemokaaF7
namespace Go.Proofs.Ytiaoncdnkemokaa
set_option linter.unusedVariables false
set_option linter.unusedSimpArgs false
open Go.RowKit

theorem drawW_any (a : Option Addr) (c : Nat) (bs : List Nat) (w : World) (h : RdB w a bs) :
    Calls Try.prog 20 #[.slice a bs.length c] w (RetD w) := by
  go_enter Try.func20, Try.ntmps20
  go_wp2_with fail
  refine (draw_any a c bs _ (h.later (Ba (Below.refl _ _) _))).mono ?_
  rintro e w2 ⟨a2, c2, W, xs, rfl, hW1, hW2, hg, hb2⟩
  have hk2 := (Blk.new w (Value.int IntKind.i64 0) (Value.slice none 0 0) 26).next hb2
  have hg' : Got w2 (w.heap.size + 1) a2 xs := hg.mono (by simp)
  have hb : Below w.heap.size w w2 := (Ba (Below.refl _ _) _).trans (hb2.mono (by simp))
  obtain ⟨r0, r1⟩ := hk2.cells
  have f0 : w2.frozen? ⟨w.heap.size, 0, none⟩ = false := frozen_of_row w2 _ 0 _ _ hk2
  have f1 : w2.frozen? ⟨w.heap.size, 1, none⟩ = false := frozen_of_row w2 _ 1 _ _ hk2
  clear hb2 hg
  go_wp2
  have gw : Dw w.heap.size w2 ((w2.setCell ⟨w.heap.size, 0, none⟩ (.int .i64 W)).setCell ⟨w.heap.size, 1, none⟩ (.slice a2 xs.length c2)) := (gsc _ ⟨w.heap.size, 0, none⟩ _).trans (gsc _ ⟨w.heap.size, 1, none⟩ _)
  obtain ⟨d0, d1⟩ := ((hk2.put0 (Value.int IntKind.i64 W)).put1 (Value.slice a2 xs.length c2)).cells
  exact bodyPost_ret (v := .agg #[.int .i64 W, .slice a2 xs.length c2]) (by simp [results, Try.results20, go_sem, d0, d1]) rfl ⟨a2, c2, W, xs, rfl, hW1, hW2, (hg'.far gw (by omega)).mono (by omega), (hb.setCell (Nat.le_refl _) _).setCell (Nat.le_refl _) _⟩

end Go.Proofs.Ytiaoncdnkemokaa
