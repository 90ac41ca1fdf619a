/- Both Begin. -/
import Derived.Test.YtlkdehgbppelkaaBGA
namespace Go.Proofs.Ytlkdehgbppelkaa
set_option linter.unusedVariables false
set_option linter.unusedSimpArgs false
open Go.RowKit

theorem markSession_one (b : Nat) (x : Int) (w : World) (h : One w b x) : Calls Try.prog 7 #[Sv b, .int .i64 1] w fun e w' => e = .returned (.int .i64 2) ∧ Below b w w' ∧ (∀ k, k < w.heap.size → k ≠ b → w'.heap[k]? = w.heap[k]?) ∧ One w' b 1 ∧ w.heap.size ≤ w'.heap.size := by
  unfold Sv
  have HB := kide ((Below.refl w.heap.size w).alloc (Nat.le_refl _) (.cells #[.slice none 0 0, .slice (some ⟨b, 0, none⟩) 1 1, .int .i64 1] 25))
  have h1 := h.later HB.out h.lt
  have HQ := kide (markScopeS_one b x _ h1)
  have H1 := kide (h1.put 1)
  have HL := kide h.lt
  clear h h1
  go_enter Try.func7, Try.ntmps7
  go_wp2_with fail
  refine Calls.mono (markDeclS_nil _ _) ?_
  rintro e w1 ⟨rfl, rfl⟩
  go_wp2_with fail
  refine Calls.mono HQ.out ?_
  rintro e w2 ⟨rfl, rfl⟩
  go_wp2_with fail
  go_ret
  refine ⟨rfl, ?_, ?_, H1.out, ?_⟩
  · exact (HB.out.mono (Nat.le_of_lt HL.out)).setCell (by simp) _
  · intro k hk hn
    rw [heap_setCell_other _ _ _ _ (by simpa using hn)]
    exact HB.out.block k hk
  · simp

theorem heldSession_one (b : Nat) (w : World) (h : One w b 1) : Calls Try.prog 8 #[Sv b, .int .i64 1] w fun e w' => e = .returned (.int .i64 2) ∧ Below w.heap.size w w' := by
  unfold Sv
  have HB := kide ((Below.refl w.heap.size w).alloc (Nat.le_refl _) (.cells #[.slice none 0 0, .slice (some ⟨b, 0, none⟩) 1 1, .int .i64 1] 25))
  have HQ := kide (heldScopeS_one b _ (h.later HB.out h.lt))
  clear h
  go_enter Try.func8, Try.ntmps8
  go_wp2_with fail
  refine Calls.mono (heldDeclS_nil _ _) ?_
  rintro e w1 ⟨rfl, rfl⟩
  go_wp2_with fail
  refine Calls.mono HQ.out ?_
  rintro e w2 ⟨rfl, rfl⟩
  go_wp2_with fail
  go_ret
  exact ⟨rfl, HB.out⟩

theorem Try.infoSc : (Try.prog.info? 32).map (fun i => (i.zero, i.size, i.bytes)) = some (some (.agg #[.int .i64 0, .slice none 0 0]), 2, 32) := by kernel_rfl

theorem make_one (w : World) :
    (Instr.makeSlice 23 (.int .i64 1) (.int .i64 1)).run Try.prog w = .ok (.slice (some ⟨w.heap.size, 0, none⟩) 1 1) (w.alloc (.cells #[.int .i64 0, .slice none 0 0] 32)) := by
  obtain ⟨i0, hi, hz0, hz1, hz2⟩ := info_parts Try.infoSc
  have := run_make (P := Try.prog) w 23 32 i0 _ Try.underlying23 hi hz0 .i64 .i64 1 1 (by omega) (Int.le_refl _) (by rw [hz2]; omega) (by omega)
  rw [hz1] at this
  rw [this, show madeCells (Value.agg #[Value.int .i64 0, Value.slice none 0 0]).cells (Int.toNat 1 * 2) = #[Value.int .i64 0, Value.slice none 0 0] from by first | kernel_rfl | simp [madeCells]]
  rfl

theorem specBegin (w : World) : Calls Try.prog 4 #[] w fun e w' => ∃ b, e = .returned (Sv b) ∧ w.heap.size ≤ b ∧ One w' b 0 ∧ Below w.heap.size w w' := by
  unfold Sv
  go_enter Try.func4, Try.ntmps4
  go_wp2
  refine bodyPost_ret (v := .agg #[.slice none 0 0, .slice (some ⟨w.heap.size + 1, 0, none⟩) 1 1, .int .i64 1]) (by simp [results, Try.results4, go_sem]) rfl ?_
  refine ⟨w.heap.size + 1, rfl, Nat.le_succ _, ?_, ((Below.refl _ _).alloc (Nat.le_refl _) _).alloc (by simp) _⟩
  have h := heap_alloc_new (w.alloc (.cells #[.slice none 0 0, .slice (some ⟨w.heap.size + 1, 0, none⟩) 1 1, .int .i64 1] 25)) (.cells #[.int .i64 0, .slice none 0 0] 32)
  simpa [One] using h

theorem implBegin (w : World) : Calls Try.prog 5 #[] w fun e w' => ∃ b, e = .returned (Sv b) ∧ w.heap.size ≤ b ∧ One w' b 0 ∧ Below w.heap.size w w' := by
  unfold Sv
  have hm := make_one
  go_enter Try.func5, Try.ntmps5
  go_wp2
  refine bodyPost_ret (v := .agg #[.slice none 0 0, .slice (some ⟨w.heap.size + 1, 0, none⟩) 1 1, .int .i64 1]) (by simp [results, Try.results5, go_sem]) rfl ?_
  refine ⟨w.heap.size + 1, rfl, Nat.le_succ _, ?_, ((Below.refl _ _).alloc (Nat.le_refl _) _).alloc (by simp) _⟩
  have h := heap_alloc_new (w.alloc (.cells #[.slice none 0 0, .slice (some ⟨w.heap.size + 1, 0, none⟩) 1 1, .int .i64 1] 25)) (.cells #[.int .i64 0, .slice none 0 0] 32)
  simpa [One] using h

end Go.Proofs.Ytlkdehgbppelkaa
