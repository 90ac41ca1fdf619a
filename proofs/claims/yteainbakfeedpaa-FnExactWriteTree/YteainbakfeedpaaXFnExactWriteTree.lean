/- The law FnExactWriteTree returns true, whatever it is handed. -/
import Derived.Test.YteainbakfeedpaaTP
import Derived.Test.YteainbakfeedpaaTO
import Derived.Test.YteainbakfeedpaaUG
namespace Go.Proofs.Yteainbakfeedpaa
set_option linter.unusedVariables false
set_option linter.unusedSimpArgs false
open Go.RowKit

set_option maxHeartbeats 1000000 in
set_option maxRecDepth 100000 in
theorem law_yes_FnExactWriteTree (a : Option Addr) (c : Nat) (hs : List Hd) (ns : List Nd) (w : World) (hh : RdH w a hs) (hn : ns.length = hs.length) (hr : RdN w a ns) (hz : 0 ≤ szH hs (1048576 - hs.length)) :
    Calls Try.prog 6 #[.agg #[.slice a ns.length c]] w fun e w' => e = .returned (.bool true) ∧ Below w.heap.size w w' := by
  have hl := hr.1
  have HSZ := hide (fun u hu => szTree_of a c ns.length hs hn u hu)
  have HTT := hide (fun u hu => toTree_any a c ns u hu)
  generalize szH hs (1048576 - hs.length) = Z at *
  have s0 := Bk.start w (.slice a ns.length c) 38
  have hh0 := hide (hh.later s0.below)
  have hrH := hide hr
  clear hh hr hn
  go_enter Try.func6, Try.ntmps6
  go_wp2_with fail
  refine Calls.mono (HSZ.out _ hh0.out) ?_
  rintro e w1 ⟨rfl, hb1⟩
  have s1 := s0.next hb1
  have c1 := s1.cell
  clear hb1 s0
  go_wp2_with fail
  refine Calls.mono (HTT.out _ (RdN.later hrH.out s1.below)) ?_
  rintro e w2 ⟨g2, m2, rfl, hm2, r2, hb2⟩
  have s2 := s1.next hb2
  clear hb2 s1 c1
  have hml : m2.length = ns.length := by simpa using congrArg List.length hm2
  have HSP := hide (specWrite_any (some ⟨g2, 0, none⟩) ns.length m2 w2 r2)
  rw [hm2, hml] at HSP
  clear hml hm2 r2
  go_wp2_with fail
  refine Calls.mono HSP.out ?_
  rintro e w3 ⟨rfl, hb3⟩
  have s3 := s2.next hb3
  have c3 := s3.cell
  clear hb3 s2
  go_wp2_with fail
  refine Calls.mono (HTT.out _ (RdN.later hrH.out s3.below)) ?_
  rintro e w4 ⟨g4, m4, rfl, hm4, r4, hb4⟩
  have s4 := s3.next hb4
  clear hb4 s3 c3
  have hml : m4.length = ns.length := by simpa using congrArg List.length hm4
  have hbx : Below w4.heap.size w4 (w4.alloc (Obj.cells #[Value.slice (some ⟨g4, 0, none⟩) ns.length ns.length] 26)) := (Below.refl _ _).alloc (Nat.le_refl _) _
  have HIM := hide (implWrite_any (some ⟨g4, 0, none⟩) ns.length m4 _ (r4.later hbx))
  rw [hm4, hml] at HIM
  have s5 := s4.next hbx
  have t5 := Bk.start w4 (.slice (some ⟨g4, 0, none⟩) ns.length ns.length) 26
  have r5 := r4.later hbx
  have HM4 := hide hm4
  have HML := hide hml
  clear hml hm4 s4 r4
  go_wp2_with fail
  refine Calls.mono HIM.out ?_
  generalize w4.alloc (Obj.cells #[Value.slice (some ⟨g4, 0, none⟩) ns.length ns.length] 26) = w5 at *
  rintro e w6 ⟨rfl, hb6⟩
  have s6 := s5.next hb6
  have t6 := t5.next hb6
  have r6 := r5.later hb6
  have c6 := s6.cell
  have d6 := t6.cell
  have hq6 := hide (RdN.later hrH.out s6.below)
  clear hb6 s5 t5 r5 hbx HIM HSP
  generalize txt (writeT (ns.map Nd.ct)) = V at *
  have hbb : (V.toList == V.toList) = true := by simp
  go_wp2_with fail
  go_region_held3 (fun u => u.cell? ⟨w.heap.size, 0, none⟩ = some (Value.slice a ns.length c) ∧ u.cell? ⟨w4.heap.size, 0, none⟩ = some (Value.slice (some { block := g4, off := 0 }) ns.length ns.length)) (simp [*])
    (first
      | (go_at_call 20; refine Calls.mono (HTT.out _ ?_) ?_; exact hq6.out; rintro e w7 ⟨g7, m7, rfl, hm7, r7, hb7⟩; replace hb7 := undrew hb7; have s7 := Bk.next (wk := w6) s6 hb7; have t7 := Bk.next (wk := w6) t6 hb7; have q7 := RdN.later (w := w6) r6 hb7; have c7 := s7.cell; have d7 := t7.cell; have HM7 := hide hm7; clear hm7)
      | (go_at_call 21; refine Calls.mono (eqTree_of (some ⟨g4, 0, none⟩) (some ⟨g7, 0, none⟩) ns.length ns.length m4 m7 HML.out (by have h := HM7.out; have h := congrArg List.length h; simpa using h) (HM4.out.trans HM7.out.symm) _ q7 r7) ?_; rintro e w8 ⟨rfl, hb8⟩; have s8 := s7.next hb8; have t8 := t7.next hb8; have c8 := s8.cell; have d8 := t8.cell))
  go_wp2_with fail
  go_ret
  exact ⟨rfl, s8.below⟩

theorem law_no_FnExactWriteTree (a : Option Addr) (c : Nat) (hs : List Hd) (w : World) (hh : RdH w a hs) (hz : szH hs (1048576 - hs.length) = -1) :
    Calls Try.prog 6 #[.agg #[.slice a hs.length c]] w fun e w' => e = .returned (.bool true) ∧ Below w.heap.size w w' := by
  have hl := hh.1
  have HSZ := hide (fun u hu => szTree_of a c hs.length hs rfl u hu)
  rw [hz] at HSZ
  have s0 := Bk.start w (.slice a hs.length c) 38
  have hh0 := hide (hh.later s0.below)
  clear hh hz
  go_enter Try.func6, Try.ntmps6
  go_wp2_with fail
  refine Calls.mono (HSZ.out _ hh0.out) ?_
  rintro e w1 ⟨rfl, hb1⟩
  have s1 := s0.next hb1
  go_wp2_with fail
  go_ret
  exact ⟨rfl, s1.below⟩

theorem law_big_FnExactWriteTree (a : Option Addr) (n c : Nat) (w : World) (hn : n ≤ 9223372036854775807) (h : ¬ n ≤ 1048576) :
    Calls Try.prog 6 #[.agg #[.slice a n c]] w fun e w' => e = .returned (.bool true) ∧ Below w.heap.size w w' := by
  have HSZ := hide (fun u => szTree_out a n c u hn h)
  have s0 := Bk.start w (.slice a n c) 38
  go_enter Try.func6, Try.ntmps6
  go_wp2_with fail
  refine Calls.mono (HSZ.out _) ?_
  rintro e w1 ⟨rfl, hb1⟩
  have s1 := s0.next hb1
  go_wp2_with fail
  go_ret
  exact ⟨rfl, s1.below⟩

theorem walk_FnExactWriteTree (a : Option Addr) (n c : Nat) (hn : n ≤ 9223372036854775807) (w : World) (hx : n ≤ 1048576 → ∃ hs : List Hd, hs.length = n ∧ RdH w a hs ∧ ∀ h ∈ hs, KidsOf w h) :
    Calls Try.prog 6 #[.agg #[.slice a n c]] w fun e w' => e = .returned (.bool true) ∧ Below w.heap.size w w' := by
  by_cases h : n ≤ 1048576
  · obtain ⟨hs, rfl, hh, hk⟩ := hx h
    by_cases hz : 0 ≤ szH hs (1048576 - hs.length)
    · obtain ⟨ns, hl, hr⟩ := RdN_of hh hk hz
      have := law_yes_FnExactWriteTree a c hs ns w hh hl hr hz
      rwa [hl] at this
    · refine law_no_FnExactWriteTree a c hs w hh ?_
      rcases szH_range hs (1048576 - hs.length) (by omega) with e | ⟨e, -⟩
      · exact e
      · exact absurd e hz
  · exact law_big_FnExactWriteTree a n c w hn h

end Go.Proofs.Yteainbakfeedpaa
