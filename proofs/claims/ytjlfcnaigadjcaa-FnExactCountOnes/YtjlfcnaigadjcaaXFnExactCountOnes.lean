/- The law FnExactCountOnes returns true, whatever it is handed. -/
import Derived.Test.YtjlfcnaigadjcaaZ3
import Derived.Deep.RegionHeld3
namespace Go.Proofs.Ytjlfcnaigadjcaa
set_option linter.unusedVariables false
set_option linter.unusedSimpArgs false
open Go.RowKit

theorem law_small_CountOnes (W : Int) (a : Option Addr) (c : Nat) (xs : List Nat) (w : World) (hr : Rd w a xs) :
    Calls Try.prog 18 #[.agg #[.int .i64 W, .slice a xs.length c]] w fun e w' => e = .returned (.bool true) ∧ Below w.heap.size w w' := by
  have hl := hr.1
  have hx := hr.2.1
  go_enter Try.func18, Try.ntmps18
  go_wp2_with fail
  refine (szBits_yes _ _ _ _ _ _ (by omega) (by omega) (by omega) (by omega)).mono ?_
  rintro e w1 ⟨rfl, hb1⟩
  have s1 := (St.start w _).next hb1
  have r1 := s1.rd hr
  obtain ⟨c0, c1⟩ := s1.two
  clear hb1
  go_wp2_with fail
  refine (toBits_any _ _ _ _ _ r1).mono ?_
  rintro e w2 ⟨g1, rfl, hg1, ho1, hb2⟩
  have s2 := s1.next hb2
  clear s1 r1 c0 c1
  go_wp2_with fail
  refine (specOnes_any _ _ _ _ _ (ho1.rd hl hx)).mono ?_
  rintro e w3 ⟨rfl, hb3⟩
  have s3 := s2.next hb3
  have r3 := s3.rd hr
  obtain ⟨c0, c1⟩ := s3.two
  clear s2 hg1 ho1 hb2 hb3
  go_wp2_with fail
  refine (toBits_any _ _ _ _ _ r3).mono ?_
  rintro e w4 ⟨g2, rfl, hg2, ho2, hb4⟩
  have s4 := s3.next hb4
  clear s3 r3 c0 c1
  go_wp2_with fail
  have ho2' := ho2.later ((Below.refl _ w4).alloc (Nat.le_refl _) (Obj.cells #[Value.int IntKind.i64 W, Value.slice (some { block := g2, off := 0 }) xs.length xs.length] 26)) ho2.lt
  refine (implOnes_any _ _ _ _ _ (ho2'.rd hl hx)).mono ?_
  rintro e w5 ⟨rfl, hb5⟩
  have t5 := (St.start w4 _).next hb5
  have s5 := (s4.next' ((Below.refl _ w4).alloc (Nat.le_refl _) (Obj.cells #[Value.int IntKind.i64 W, Value.slice (some { block := g2, off := 0 }) xs.length xs.length] 26)) s4.size).next hb5
  have ho5 := ho2'.later hb5 ho2'.lt
  have r5 := s5.rd hr
  obtain ⟨c0, c1⟩ := s5.two
  obtain ⟨d0, d1⟩ := t5.two
  clear s4 hb4 hb5 ho2 ho2' hg2 hr
  go_wp2_with fail
  go_region_held3 (fun u => u.cell? ⟨w.heap.size, 0, none⟩ = some (Value.int IntKind.i64 W) ∧ u.cell? ⟨w.heap.size, 1, none⟩ = some (Value.slice a xs.length c) ∧ u.cell? ⟨w4.heap.size, 0, none⟩ = some (Value.int IntKind.i64 W) ∧ u.cell? ⟨w4.heap.size, 1, none⟩ = some (Value.slice (some { block := g2, off := 0 }) xs.length xs.length)) (simp [*])
    (first | (go_at_call 43; refine (toBits_any _ _ _ _ _ ?_).mono ?_; exact r5; rintro e w6 ⟨g3, rfl, hg3, ho3, hb6⟩; replace hb6 := undrew hb6; have s6 := St.next (w := w) (wk := w5) s5 hb6; have t6 := St.next (w := w4) (wk := w5) t5 hb6; have ho6 := Own.later (w := w5) ho5 hb6 ho5.lt; obtain ⟨k0, k1⟩ := s6.two; obtain ⟨l0, l1⟩ := t6.two) | (go_at_call 44; refine (eqBits_any _ _ _ _ _ _ _ _ _ (ho6.rd hl hx) (ho3.rd hl hx)).mono ?_; rintro e w7 ⟨rfl, hb7⟩; have s7 := St.next (w := w) (wk := w6) s6 hb7; have t7 := St.next (w := w4) (wk := w6) t6 hb7; obtain ⟨m0, m1⟩ := s7.two; obtain ⟨n0, n1⟩ := t7.two))
  go_wp2
  go_ret
  exact ⟨rfl, s7.below⟩

theorem law_big_CountOnes (W : Int) (a : Option Addr) (n c : Nat) (w : World) (h : 1048576 < n) (hn : n ≤ 9223372036854775807) :
    Calls Try.prog 18 #[.agg #[.int .i64 W, .slice a n c]] w fun e w' => e = .returned (.bool true) ∧ Below w.heap.size w w' := by
  go_enter Try.func18, Try.ntmps18
  go_wp2_with fail
  refine (szBits_no _ _ _ _ _ _ (by omega) (by omega) (by omega) (by omega)).mono ?_
  rintro e w1 ⟨rfl, hb1⟩
  have s1 := (St.start w _).next hb1
  go_wp2
  go_ret
  exact ⟨rfl, s1.below⟩

theorem walk_FnExactCountOnes (W : Int) (a : Option Addr) (n c : Nat) (_ : (Lit.int .i64 W).wf = true) (hn : n ≤ 9223372036854775807) (w : World) (hx : n ≤ 1048576 → ∃ xs : List Nat, xs.length = n ∧ Rd w a xs) :
    Calls Try.prog 18 #[.agg #[.int .i64 W, .slice a n c]] w fun e w' => e = .returned (.bool true) ∧ Below w.heap.size w w' := by
  rcases Nat.lt_or_ge 1048576 n with h | h
  · exact law_big_CountOnes W a n c w h hn
  · obtain ⟨xs, rfl, hr⟩ := hx h
    exact law_small_CountOnes W a c xs w hr

end Go.Proofs.Ytjlfcnaigadjcaa
