/- The law FnExactWriteBits returns true, whatever it is handed. -/
import Derived.Test.YtiaoncdnkemokaaWI
import Derived.Test.YtiaoncdnkemokaaWS
import Derived.Deep.RegionHeld3
namespace Go.Proofs.Ytiaoncdnkemokaa
set_option linter.unusedVariables false
set_option linter.unusedSimpArgs false
open Go.RowKit

theorem implWrite_any (W : Int) (a : Option Addr) (c : Nat) (xs : List Nat) (w : World) (hr : Rd w a xs) :
    Calls Try.prog 23 #[.agg #[.int .i64 W, .slice a xs.length c]] w fun e w' => e = .returned (.string (txt (writeR W xs))) ∧ Below w.heap.size w w' := by
  cases hok : rightB W xs with
  | true =>
    rw [writeR, if_pos hok]
    obtain ⟨hW1, hW2, _⟩ := right_W hok
    obtain ⟨V, rfl⟩ := Int.eq_ofNat_of_zero_le (show 0 ≤ W by omega)
    rw [Int.toNat_natCast]
    by_cases h4 : V % 4 = 0
    · exact implWrite_x V a c xs w hr hok h4
    · exact implWrite_b V a c xs w hr hok h4
  | false =>
    rw [writeR, if_neg (by simp [hok])]
    have B0 : Below w.heap.size w (w.alloc (Obj.cells #[Value.int IntKind.i64 W, Value.slice a xs.length c] 26)) := Ba (Below.refl _ _) _
    have hok0 := implOk_any W a c xs _ (hr.later B0)
    rw [hok] at hok0
    go_enter Try.func23, Try.ntmps23
    go_wp2_with fail
    refine hok0.mono ?_
    rintro e w1 ⟨rfl, hb1⟩
    have B1 := chain B0 hb1
    clear hok0
    go_wp2
    go_ret
    exact ⟨rfl, B1⟩

theorem specWrite_any (W : Int) (a : Option Addr) (c : Nat) (xs : List Nat) (w : World) (hr : Rd w a xs) :
    Calls Try.prog 47 #[.agg #[.int .i64 W, .slice a xs.length c]] w fun e w' => e = .returned (.string (txt (writeR W xs))) ∧ Below w.heap.size w w' := by
  cases hok : rightB W xs with
  | true =>
    rw [writeR, if_pos hok]
    obtain ⟨hW1, hW2, _⟩ := right_W hok
    obtain ⟨V, rfl⟩ := Int.eq_ofNat_of_zero_le (show 0 ≤ W by omega)
    rw [Int.toNat_natCast]
    by_cases h4 : V % 4 = 0
    · exact specWrite_x V a c xs w hr hok h4
    · exact specWrite_b V a c xs w hr hok h4
  | false =>
    rw [writeR, if_neg (by simp [hok])]
    have B0 : Below w.heap.size w (w.alloc (Obj.cells #[Value.int IntKind.i64 W, Value.slice a xs.length c] 26)) := Ba (Below.refl _ _) _
    have hok0 := specOk_any W a c xs _ (hr.later B0)
    rw [hok] at hok0
    go_enter Try.func47, Try.ntmps47
    go_wp2_with fail
    refine hok0.mono ?_
    rintro e w1 ⟨rfl, hb1⟩
    have B1 := chain B0 hb1
    clear hok0
    go_wp2
    go_ret
    exact ⟨rfl, B1⟩

theorem law_small_WriteBits (W : Int) (a : Option Addr) (c : Nat) (xs : List Nat) (w : World) (hr : Rd w a xs) :
    Calls Try.prog 9 #[.agg #[.int .i64 W, .slice a xs.length c]] w fun e w' => e = .returned (.bool true) ∧ Below w.heap.size w w' := by
  have hl := hr.1
  have hx := hr.2.1
  have hW : ∀ (a : Option Addr) (c : Nat) (u : World), Rd u a xs → Calls Try.prog 47 #[.agg #[.int .i64 W, .slice a xs.length c]] u fun e w' => e = .returned (.string (txt (writeR W xs))) ∧ Below u.heap.size u w' := fun a c u h => specWrite_any W a c xs u h
  have hI : ∀ (a : Option Addr) (c : Nat) (u : World), Rd u a xs → Calls Try.prog 23 #[.agg #[.int .i64 W, .slice a xs.length c]] u fun e w' => e = .returned (.string (txt (writeR W xs))) ∧ Below u.heap.size u w' := fun a c u h => implWrite_any W a c xs u h
  generalize txt (writeR W xs) = T at *
  have HW : Hid _ := hW
  have HI : Hid _ := hI
  clear hW hI
  go_enter Try.func9, Try.ntmps9
  go_wp2_with fail
  refine (szBits_yes _ _ _ _ _ _ (by omega) (by omega) (by omega) (by omega)).mono ?_
  rintro e w1 ⟨rfl, hb1⟩
  have s1 := (St.start w _).next hb1
  have r1 := s1.rd hr
  obtain ⟨c0, c1⟩ := s1.two
  clear hb1
  go_wp2_with fail
  refine (toBits_any _ _ _ _ _ r1).mono ?_
  rintro e w2 ⟨g1, rfl, hg1, ho1, hb2⟩
  have s2 := s1.next hb2
  clear s1 r1 c0 c1
  go_wp2_with fail
  refine (HW.out _ _ _ (ho1.rd hl hx)).mono ?_
  rintro e w3 ⟨rfl, hb3⟩
  have s3 := s2.next hb3
  have r3 := s3.rd hr
  obtain ⟨c0, c1⟩ := s3.two
  clear s2 hg1 ho1 hb2 hb3
  go_wp2_with fail
  refine (toBits_any _ _ _ _ _ r3).mono ?_
  rintro e w4 ⟨g2, rfl, hg2, ho2, hb4⟩
  have s4 := s3.next hb4
  clear s3 r3 c0 c1
  go_wp2_with fail
  have ho2' := ho2.later ((Below.refl _ w4).alloc (Nat.le_refl _) (Obj.cells #[Value.int IntKind.i64 W, Value.slice (some { block := g2, off := 0 }) xs.length xs.length] 26)) ho2.lt
  refine (HI.out _ _ _ (ho2'.rd hl hx)).mono ?_
  rintro e w5 ⟨rfl, hb5⟩
  have t5 := (St.start w4 _).next hb5
  have s5 := (s4.next' ((Below.refl _ w4).alloc (Nat.le_refl _) (Obj.cells #[Value.int IntKind.i64 W, Value.slice (some { block := g2, off := 0 }) xs.length xs.length] 26)) s4.size).next hb5
  have ho5 := ho2'.later hb5 ho2'.lt
  have r5 := s5.rd hr
  obtain ⟨c0, c1⟩ := s5.two
  obtain ⟨d0, d1⟩ := t5.two
  clear s4 hb4 hb5 ho2 ho2' hg2 hr
  go_wp2_with fail
  go_region_held3 (fun u => u.cell? ⟨w.heap.size, 0, none⟩ = some (Value.int IntKind.i64 W) ∧ u.cell? ⟨w.heap.size, 1, none⟩ = some (Value.slice a xs.length c) ∧ u.cell? ⟨w4.heap.size, 0, none⟩ = some (Value.int IntKind.i64 W) ∧ u.cell? ⟨w4.heap.size, 1, none⟩ = some (Value.slice (some { block := g2, off := 0 }) xs.length xs.length)) (simp [*])
    (first | (go_at_call 43; refine (toBits_any _ _ _ _ _ ?_).mono ?_; exact r5; rintro e w6 ⟨g3, rfl, hg3, ho3, hb6⟩; replace hb6 := undrew hb6; have s6 := St.next (w := w) (wk := w5) s5 hb6; have t6 := St.next (w := w4) (wk := w5) t5 hb6; have ho6 := Own.later (w := w5) ho5 hb6 ho5.lt; obtain ⟨k0, k1⟩ := s6.two; obtain ⟨l0, l1⟩ := t6.two) | (go_at_call 44; refine (eqBits_any _ _ _ _ _ _ _ _ _ (ho6.rd hl hx) (ho3.rd hl hx)).mono ?_; rintro e w7 ⟨rfl, hb7⟩; have s7 := St.next (w := w) (wk := w6) s6 hb7; have t7 := St.next (w := w4) (wk := w6) t6 hb7; obtain ⟨m0, m1⟩ := s7.two; obtain ⟨n0, n1⟩ := t7.two))
  go_wp2
  go_ret
  exact ⟨rfl, s7.below⟩

theorem law_big_WriteBits (W : Int) (a : Option Addr) (n c : Nat) (w : World) (h : 1048576 < n) (hn : n ≤ 9223372036854775807) :
    Calls Try.prog 9 #[.agg #[.int .i64 W, .slice a n c]] w fun e w' => e = .returned (.bool true) ∧ Below w.heap.size w w' := by
  go_enter Try.func9, Try.ntmps9
  go_wp2_with fail
  refine (szBits_no _ _ _ _ _ _ (by omega) (by omega) (by omega) (by omega)).mono ?_
  rintro e w1 ⟨rfl, hb1⟩
  have s1 := (St.start w _).next hb1
  go_wp2
  go_ret
  exact ⟨rfl, s1.below⟩

theorem walk_FnExactWriteBits (W : Int) (a : Option Addr) (n c : Nat) (_ : (Lit.int .i64 W).wf = true) (hn : n ≤ 9223372036854775807) (w : World) (hx : n ≤ 1048576 → ∃ xs : List Nat, xs.length = n ∧ Rd w a xs) :
    Calls Try.prog 9 #[.agg #[.int .i64 W, .slice a n c]] w fun e w' => e = .returned (.bool true) ∧ Below w.heap.size w w' := by
  rcases Nat.lt_or_ge 1048576 n with h | h
  · exact law_big_WriteBits W a n c w h hn
  · obtain ⟨xs, rfl, hr⟩ := hx h
    exact law_small_WriteBits W a c xs w hr

end Go.Proofs.Ytiaoncdnkemokaa
