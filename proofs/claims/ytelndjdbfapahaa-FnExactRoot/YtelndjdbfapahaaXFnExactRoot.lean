/- The law FnExactRoot returns true, whatever it is handed. -/
import Derived.Test.YtelndjdbfapahaaGN
namespace Go.Proofs.Ytelndjdbfapahaa
set_option linter.unusedVariables false
set_option linter.unusedSimpArgs false
open Go.RowKit

set_option maxHeartbeats 1000000 in
set_option maxRecDepth 100000 in
theorem law_yes_FnExactRoot (z : Int) (a : Option Addr) (n c : Nat) (ls : List Lk) (x : Int) (w : World) (hr : RdK w a ls) (hn : ls.length = n) :
    Calls Try.prog 4 #[.agg #[.int .i64 z, .slice a n c], .int .i64 x] w fun e w' => e = .returned (.bool true) ∧ Below w.heap.size w w' := by
  have hn2 : n ≤ 1048576 := by rw [← hn]; exact hr.1
  have HSZ := kide (fun u => szForest_any z a n c u (by omega))
  have HTF := kide (fun u (hu : Below w.heap.size w u) => toForest_any z a c ls u (hr.later hu) n hn)
  have HSP := kide (fun (g : Nat) (u : World) (hu : RdK u (some ⟨g, 0, none⟩) ls) => specRoot_any z (some ⟨g, 0, none⟩) n n ls x u hu hn)
  have HIM := kide (fun (g : Nat) (u : World) (hu : RdK u (some ⟨g, 0, none⟩) ls) => implRoot_any z (some ⟨g, 0, none⟩) n n ls x u hu hn)
  have HEQ := kide (fun (g g' : Nat) (u : World) (hu : RdK u (some ⟨g, 0, none⟩) ls) (hu' : RdK u (some ⟨g', 0, none⟩) ls) => eqForest_same z (some ⟨g, 0, none⟩) (some ⟨g', 0, none⟩) n n n ls u hu hu' hn)
  generalize rootR z ls x = V at *
  have hi : (n : Int) ≤ 1048576 := by omega
  simp only [if_pos hi] at HSZ
  have hVV : (V != V) = false := by simp
  have s0 := St.start w (.cells #[.int .i64 z, .slice a n c] 24)
  have hnl : ¬ (1048576 : Int) - n < 0 := by omega
  clear hr hn
  go_enter Try.func4, Try.ntmps4
  go_wp2_with fail
  refine Calls.mono (HSZ.out _) ?_
  rintro e w1 ⟨rfl, hb1⟩
  have s1 := s0.next hb1
  have c0 := s1.cell 0
  have c1 := s1.cell 1
  simp at c0 c1
  clear hb1 s0
  go_wp2_with fail
  refine Calls.mono (HTF.out w1 s1.below) ?_
  rintro e w2 ⟨g2, rfl, -, r2, hb2⟩
  have s2 := s1.next hb2
  have c0 := s2.cell 0
  have c1 := s2.cell 1
  simp at c0 c1
  have R2 := kide r2
  clear hb2 s1 r2
  go_wp2_with fail
  refine Calls.mono (HSP.out g2 w2 R2.out) ?_
  rintro e w3 ⟨rfl, hb3⟩
  have s3 := s2.next hb3
  have c0 := s3.cell 0
  have c1 := s3.cell 1
  simp at c0 c1
  clear hb3 s2 R2
  go_wp2_with fail
  refine Calls.mono (HTF.out w3 s3.below) ?_
  rintro e w4 ⟨g4, rfl, -, r4, hb4⟩
  have s4 := s3.next hb4
  have hbx : Below w4.heap.size w4 (w4.alloc (Obj.cells #[Value.int .i64 z, Value.slice (some ⟨g4, 0, none⟩) n n] 29)) := (Below.refl _ _).alloc (Nat.le_refl _) _
  have s5 := s4.next hbx
  have t5 := St.start w4 (.cells #[.int .i64 z, .slice (some ⟨g4, 0, none⟩) n n] 29)
  have R5 := kide (r4.later hbx)
  clear hb4 s3 r4 s4 hbx
  go_wp2_with fail
  generalize w4.alloc (Obj.cells #[Value.int .i64 z, Value.slice (some ⟨g4, 0, none⟩) n n] 29) = w5 at *
  refine Calls.mono (HIM.out g4 w5 R5.out) ?_
  rintro e w6 ⟨rfl, hb6⟩
  have s6 := s5.next hb6
  have t6 := t5.next hb6
  have c0 := s6.cell 0
  have c1 := s6.cell 1
  have d0 := t6.cell 0
  have d1 := t6.cell 1
  simp at c0 c1 d0 d1
  have R6 := kide (R5.out.later hb6)
  clear hb6 s5 t5 R5
  go_wp2_with fail
  have B6 := kide s6.below
  first
    | (refine Calls.mono (HTF.out w6 s6.below) ?_
       rintro e w7 ⟨g7, rfl, -, r7, hb7⟩
       have s7 := s6.next hb7
       have R7 := kide (R6.out.later hb7)
       have Q7 := kide r7
       go_wp2_with fail
       refine Calls.mono (HEQ.out g4 g7 w7 R7.out Q7.out) ?_
       rintro e w8 ⟨rfl, hb8⟩
       have s8 := s7.next hb8
       go_wp2_with fail
       go_ret
       exact ⟨rfl, s8.below⟩)
    | (go_region_held3 (fun u => u.cell? ⟨w.heap.size, 0, none⟩ = some (Value.int .i64 z) ∧ u.cell? ⟨w.heap.size, 1, none⟩ = some (Value.slice a n c) ∧ u.cell? ⟨w4.heap.size, 0, none⟩ = some (Value.int .i64 z) ∧ u.cell? ⟨w4.heap.size, 1, none⟩ = some (Value.slice (some { block := g4, off := 0 }) n n)) (simp [*])
         (first
           | (go_at_call 13; refine Calls.mono (HTF.out _ ?_) ?_; exact B6.out.drew; rintro e w7 ⟨g7, rfl, -, r7, hb7⟩; replace hb7 := kundrew hb7; have s7 := St.next (wk := w6) s6 hb7; have t7 := St.next (wk := w6) t6 hb7; have q7 := kide (RdK.later (w := w6) R6.out hb7); have R7 := kide r7; have c70 := s7.cell 0; have c71 := s7.cell 1; have d70 := t7.cell 0; have d71 := t7.cell 1; simp at c70 c71 d70 d71)
           | (go_at_call 15; refine Calls.mono (HEQ.out g4 g7 _ q7.out R7.out) ?_; rintro e w8 ⟨rfl, hb8⟩; have s8 := s7.next hb8; have t8 := t7.next hb8; have c80 := s8.cell 0; have c81 := s8.cell 1; have d80 := t8.cell 0; have d81 := t8.cell 1; simp at c80 c81 d80 d81))
       go_wp2_with fail
       go_ret
       exact ⟨rfl, s8.below⟩)

theorem law_no_FnExactRoot (z : Int) (a : Option Addr) (n c : Nat) (x : Int) (w : World) (hn : n ≤ 9223372036854775807) (h : ¬ n ≤ 1048576) :
    Calls Try.prog 4 #[.agg #[.int .i64 z, .slice a n c], .int .i64 x] w fun e w' => e = .returned (.bool true) ∧ Below w.heap.size w w' := by
  have HSZ := kide (fun u => szForest_any z a n c u hn)
  have hi : ¬ (n : Int) ≤ 1048576 := by omega
  simp only [if_neg hi] at HSZ
  have s0 := St.start w (.cells #[.int .i64 z, .slice a n c] 24)
  go_enter Try.func4, Try.ntmps4
  go_wp2_with fail
  refine Calls.mono (HSZ.out _) ?_
  rintro e w1 ⟨rfl, hb1⟩
  have s1 := s0.next hb1
  go_wp2_with fail
  go_ret
  exact ⟨rfl, s1.below⟩

theorem walk_FnExactRoot (z : Int) (a : Option Addr) (n c : Nat) (hn : n ≤ 9223372036854775807) (x : Int) (wx : (Lit.int .i64 x).wf = true) (w : World) (hx : n ≤ 1048576 → ∃ ls : List Lk, ls.length = n ∧ RdK w a ls) :
    Calls Try.prog 4 #[.agg #[.int .i64 z, .slice a n c], .int .i64 x] w fun e w' => e = .returned (.bool true) ∧ Below w.heap.size w w' := by
  by_cases h : n ≤ 1048576
  · obtain ⟨ls, hl, hr⟩ := hx h
    exact law_yes_FnExactRoot z a n c ls x w hr hl
  · exact law_no_FnExactRoot z a n c x w hn h

end Go.Proofs.Ytelndjdbfapahaa
