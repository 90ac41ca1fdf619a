/- What the given ReadBits answers, at every text. -/
import Derived.Test.YtiaoncdnkemokaaD4
namespace Go.Proofs.Ytiaoncdnkemokaa
set_option linter.unusedVariables false
set_option linter.unusedSimpArgs false
open Go.RowKit

set_option maxHeartbeats 2000000 in
set_option maxRecDepth 100000 in
theorem specRead_any (s : ByteArray) (w : World) : Calls Try.prog 26 #[.string s] w (RetB w (readR s)) := by
  have h2 : Below w.heap.size w (w.alloc (Obj.cells #[Value.int IntKind.i64 0, Value.slice none 0 0] 26)) := Ba (Below.refl _ _) _
  by_cases hc : 3 ≤ s.size ∧ s.size ≤ 4098 ∧ bn s 0 = 35 ∧ (bn s 1 = 98 ∨ bn s 1 = 120)
  · rw [readR, if_pos hc]
    obtain ⟨h3, h4, e0, e1 | e1⟩ := hc
    · rw [show (bn s 1 == 120) = false by rw [e1]; rfl]
      exact specRead_b s w h3 h4 e0 e1
    · rw [show (bn s 1 == 120) = true by rw [e1]; rfl]
      exact specRead_x s w h3 h4 e0 e1
  · rw [readR, if_neg hc]
    have hb := get_bn s
    have l0 := bn_lt s 0
    have l1 := bn_lt s 1
    rcases Nat.lt_or_ge s.size 3 with g1 | g1
    · have g1i : (s.size : Int) < 3 := by omega
      go_enter Try.func26, Try.ntmps26
      go_wp2
      exact bodyPost_ret (v := .tuple #[.agg #[.int .i64 0, .slice none 0 0], .bool false]) (by simp [results, Try.results26, go_sem]) rfl (RetB.no h2)
    · rcases Nat.lt_or_ge 4098 s.size with g2 | g2
      · have g2i : (4098 : Int) < (s.size : Int) := by omega
        have g1i : ¬ (s.size : Int) < 3 := by omega
        go_enter Try.func26, Try.ntmps26
        go_wp2
        exact bodyPost_ret (v := .tuple #[.agg #[.int .i64 0, .slice none 0 0], .bool false]) (by simp [results, Try.results26, go_sem]) rfl (RetB.no h2)
      · have g2i : ¬ (4098 : Int) < (s.size : Int) := by omega
        have g1i : ¬ (s.size : Int) < 3 := by omega
        have i0 : (0 : Int) < (s.size : Int) := by omega
        have i1 : (1 : Int) < (s.size : Int) := by omega
        by_cases g3 : bn s 0 = 35
        · have g4 : ¬ bn s 1 = 98 ∧ ¬ bn s 1 = 120 := by
            refine ⟨fun h => hc ⟨g1, g2, g3, .inl h⟩, fun h => hc ⟨g1, g2, g3, .inr h⟩⟩
          obtain ⟨g5, g6⟩ := g4
          have g5i : ¬ (bn s 1 : Int) = 98 := by omega
          have g6i : ¬ (bn s 1 : Int) = 120 := by omega
          have n5 : ((bn s 1 : Int) != 98) = true := by simp; omega
          have n6 : ((bn s 1 : Int) != 120) = true := by simp; omega
          clear hc
          go_enter Try.func26, Try.ntmps26
          go_wp2
          exact bodyPost_ret (v := .tuple #[.agg #[.int .i64 0, .slice none 0 0], .bool false]) (by simp [results, Try.results26, go_sem]) rfl (RetB.no h2)
        · have g3i : ¬ (bn s 0 : Int) = 35 := by omega
          have n3 : ((bn s 0 : Int) != 35) = true := by simp; omega
          clear hc
          go_enter Try.func26, Try.ntmps26
          go_wp2
          exact bodyPost_ret (v := .tuple #[.agg #[.int .i64 0, .slice none 0 0], .bool false]) (by simp [results, Try.results26, go_sem]) rfl (RetB.no h2)

end Go.Proofs.Ytiaoncdnkemokaa
