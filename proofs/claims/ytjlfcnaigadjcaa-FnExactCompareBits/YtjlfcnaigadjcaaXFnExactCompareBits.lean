/- The law FnExactCompareBits returns true, whatever it is handed. -/
import Derived.Test.YtjlfcnaigadjcaaC2
namespace Go.Proofs.Ytjlfcnaigadjcaa
set_option linter.unusedVariables false
set_option linter.unusedSimpArgs false
open Go.RowKit

theorem undrewC {w w' : World} (h : Below w.drew.heap.size w.drew w') : Below w.heap.size w w' := ⟨h.os, h.tape, h.output, h.size, h.block⟩

theorem lawB1_FnExactCompareBits (W : Int) (a : Option Addr) (n c : Nat) (V : Int) (b : Option Addr) (m d : Nat) (w : World) (h : 1048576 < n) (hn : n ≤ 9223372036854775807) :
    Calls Try.prog 16 #[.agg #[.int .i64 W, .slice a n c], .agg #[.int .i64 V, .slice b m d]] w fun e w' => e = .returned (.bool true) ∧ Below w.heap.size w w' := by
  have h2 : Below w.heap.size w ((w.alloc (Obj.cells #[Value.int IntKind.i64 W, Value.slice a n c] 46)).alloc (Obj.cells #[Value.int IntKind.i64 V, Value.slice b m d] 46)) := Ba (Ba (Below.refl _ _) _) _
  go_enter Try.func16, Try.ntmps16
  go_wp2_with fail
  refine (szBits_no _ _ _ _ _ _ (by omega) (by omega) (by omega) (by omega)).mono ?_
  rintro e w1 ⟨rfl, hb1⟩
  have B1 := chain h2 hb1
  go_wp2
  go_ret
  exact ⟨rfl, B1⟩

theorem lawB2_FnExactCompareBits (W : Int) (a : Option Addr) (n c : Nat) (V : Int) (b : Option Addr) (m d : Nat) (w : World) (h1 : n ≤ 1048576) (h : 1048576 < n + m) (hm : m ≤ 9223372036854775807) :
    Calls Try.prog 16 #[.agg #[.int .i64 W, .slice a n c], .agg #[.int .i64 V, .slice b m d]] w fun e w' => e = .returned (.bool true) ∧ Below w.heap.size w w' := by
  have h2 : Below w.heap.size w ((w.alloc (Obj.cells #[Value.int IntKind.i64 W, Value.slice a n c] 46)).alloc (Obj.cells #[Value.int IntKind.i64 V, Value.slice b m d] 46)) := Ba (Ba (Below.refl _ _) _) _
  have bB0 := Blk.new1 w (Obj.cells #[Value.int IntKind.i64 W, Value.slice a n c] 46) (Value.int IntKind.i64 V) (Value.slice b m d) 46
  go_enter Try.func16, Try.ntmps16
  go_wp2_with fail
  refine (szBits_yes _ _ _ _ _ _ (by omega) (by omega) (by omega) (by omega)).mono ?_
  rintro e w1 ⟨rfl, hb1⟩
  have B1 := chain h2 hb1
  have bB1 := bB0.next hb1
  obtain ⟨d0, d1⟩ := bB1.cells
  go_wp2_with fail
  refine (szBits_no _ _ _ _ _ _ (by omega) (by omega) (by omega) (by omega)).mono ?_
  rintro e w2 ⟨rfl, hb2⟩
  have B2 := chain B1 hb2
  go_wp2
  go_ret
  exact ⟨rfl, B2⟩

set_option maxHeartbeats 2000000 in
set_option maxRecDepth 100000 in
theorem lawS_FnExactCompareBits (W : Int) (a : Option Addr) (c : Nat) (xs : List Nat) (V : Int) (b : Option Addr) (d : Nat) (ys : List Nat) (w : World) (hr : Rd w a xs) (hs : Rd w b ys) (hsum : xs.length + ys.length ≤ 1048576) :
    Calls Try.prog 16 #[.agg #[.int .i64 W, .slice a xs.length c], .agg #[.int .i64 V, .slice b ys.length d]] w fun e w' => e = .returned (.bool true) ∧ Below w.heap.size w w' := by
  have hl := hr.1
  have hx := hr.2.1
  have hl' := hs.1
  have hy := hs.2.1
  have h2 : Below w.heap.size w ((w.alloc (Obj.cells #[Value.int IntKind.i64 W, Value.slice a xs.length c] 46)).alloc (Obj.cells #[Value.int IntKind.i64 V, Value.slice b ys.length d] 46)) := Ba (Ba (Below.refl _ _) _) _
  have bB0 := Blk.new1 w (Obj.cells #[Value.int IntKind.i64 W, Value.slice a xs.length c] 46) (Value.int IntKind.i64 V) (Value.slice b ys.length d) 46
  have bA0 := (Blk.new w (Value.int IntKind.i64 W) (Value.slice a xs.length c) 46).alloc (Obj.cells #[Value.int IntKind.i64 V, Value.slice b ys.length d] 46)
  go_enter Try.func16, Try.ntmps16
  go_wp2_with fail
  refine (szBits_yes _ _ _ _ _ _ (by omega) (by omega) (by omega) (by omega)).mono ?_
  rintro e w1 ⟨rfl, hb1⟩
  have B1 := chain h2 hb1
  have bA1 := bA0.next hb1
  have bB1 := bB0.next hb1
  clear hb1 h2 bA0 bB0
  obtain ⟨d0, d1⟩ := bB1.cells
  go_wp2_with fail
  refine (szBits_yes _ _ _ _ _ _ (by omega) (by omega) (by omega) (by omega)).mono ?_
  rintro e w2 ⟨rfl, hb2⟩
  have B2 := chain B1 hb2
  have bA2 := bA1.next hb2
  have bB2 := bB1.next hb2
  clear hb2 B1 bA1 bB1 d0 d1
  obtain ⟨c0, c1⟩ := bA2.cells
  obtain ⟨d0, d1⟩ := bB2.cells
  have r2 := hr.later B2
  have s2 := hs.later B2
  go_wp2_with fail
  go_region_held3 (fun u => u.cell? ⟨w.heap.size, 0, none⟩ = some (Value.int IntKind.i64 W) ∧ u.cell? ⟨w.heap.size, 1, none⟩ = some (Value.slice a xs.length c) ∧ u.cell? ⟨w.heap.size + 1, 0, none⟩ = some (Value.int IntKind.i64 V) ∧ u.cell? ⟨w.heap.size + 1, 1, none⟩ = some (Value.slice b ys.length d)) (simp [*])
    (first
      | (go_at_call_of 43 xs; refine (toBits_any _ _ _ _ _ ?_).mono ?_; exact r2; rintro e w3 ⟨g1, rfl, hg1, ho1, hb3⟩; replace hb3 := undrewC hb3; have bA3 := Blk.next (w := w2) bA2 hb3; have bB3 := Blk.next (w := w2) bB2 hb3; obtain ⟨k0, k1⟩ := bA3.cells; obtain ⟨l0, l1⟩ := bB3.cells)
      | (go_at_call_of 43 ys; refine (toBits_any _ _ _ _ _ (s2.later hb3)).mono ?_; rintro e w4 ⟨g2, rfl, hg2, ho2, hb4⟩; have bA4 := bA3.next hb4; have bB4 := bB3.next hb4; have ho3 := ho1.later hb4 ho1.lt; obtain ⟨m0, m1⟩ := bA4.cells; obtain ⟨n0, n1⟩ := bB4.cells)
      | (go_at_call 39; refine (specCmp_any _ _ _ _ _ _ _ _ _ (ho3.rd hl hx) (ho2.rd hl' hy)).mono ?_; rintro e w5 ⟨rfl, hb5⟩; have bA5 := bA4.next hb5; have bB5 := bB4.next hb5; have B5 := chain (chain (chain B2 hb3) hb4) hb5; obtain ⟨p0, p1⟩ := bA5.cells; obtain ⟨q0, q1⟩ := bB5.cells))
  clear c0 c1 d0 d1 k0 k1 l0 l1 m0 m1 n0 n1 bA2 bB2 bA3 bB3 bA4 bB4 hb3 hb4 hb5 ho1 ho2 ho3 hg1 hg2 B2 r2 s2
  go_wp2_with fail
  refine (toBits_any _ _ _ _ _ (hr.later B5)).mono ?_
  rintro e w6 ⟨gx, rfl, hgx, hox, hb6⟩
  have B6 := chain B5 hb6
  have bA6 := bA5.next hb6
  have bB6 := bB5.next hb6
  have fx6 := hox.fr hgx
  clear hb6 B5 bA5 bB5 p0 p1 q0 q1 hox hgx
  obtain ⟨d0, d1⟩ := bB6.cells
  have l6 := bB6.lt
  go_wp2_with fail
  refine (toBits_any _ _ _ _ _ (hs.later (Ba B6 _))).mono ?_
  rintro e w7 ⟨gy, rfl, hgy, hoy, hb7⟩
  have B7 := chain (Ba B6 _) hb7
  have bA7 := (bA6.alloc _).next hb7
  have bB7 := (bB6.alloc _).next hb7
  have bx7 := (Blk.new w6 _ _ _).next hb7
  have fx7 := (fx6.alloc _).next hb7
  have fy7 := hoy.fr hgy
  have l7 := bx7.lt
  rw [World.size_alloc] at fy7
  clear hb7 B6 bA6 bB6 fx6 hoy hgy d0 d1
  obtain ⟨d0, d1⟩ := bx7.cells
  go_wp2_with fail
  refine (implCmp_any _ _ _ _ _ _ _ _ _ ((fx7.alloc _).rd hl hx) ((fy7.alloc _).rd hl' hy)).mono ?_
  rintro e w8 ⟨rfl, hb8⟩
  have B8 := chain (Ba B7 _) hb8
  have bA8 := (bA7.alloc _).next hb8
  have bB8 := (bB7.alloc _).next hb8
  have bx8 := (bx7.alloc _).next hb8
  have by8 := (Blk.new w7 _ _ _).next hb8
  have fx8 := (fx7.alloc _).next hb8
  have fy8 := (fy7.alloc _).next hb8
  clear hb8 B7 bA7 bB7 bx7 fx7 fy7 d0 d1
  generalize cmpI W xs V ys = z at *
  obtain ⟨c0, c1⟩ := bA8.cells
  obtain ⟨d0, d1⟩ := bx8.cells
  have r8 := hr.later B8
  have s8 := hs.later B8
  go_wp2_with fail
  go_region_held3 (fun u => u.cell? ⟨w.heap.size, 0, none⟩ = some (Value.int IntKind.i64 W) ∧ u.cell? ⟨w.heap.size, 1, none⟩ = some (Value.slice a xs.length c) ∧ u.cell? ⟨w6.heap.size, 0, none⟩ = some (Value.int IntKind.i64 W) ∧ u.cell? ⟨w6.heap.size, 1, none⟩ = some (Value.slice (some ⟨gx, 0, none⟩) xs.length xs.length)) (simp [*])
    (first
      | (go_at_call 43; refine (toBits_any _ _ _ _ _ ?_).mono ?_; exact r8; rintro e w9 ⟨gt, rfl, hgt, hot, hb9⟩; replace hb9 := undrewC hb9; have bA9 := Blk.next (w := w8) bA8 hb9; have bx9 := Blk.next (w := w8) bx8 hb9; have fx9 := Fr.next (w := w8) fx8 hb9; obtain ⟨k0, k1⟩ := bA9.cells; obtain ⟨l0, l1⟩ := bx9.cells)
      | (go_at_call 44; refine (eqBits_same _ _ _ _ _ _ _ (fx9.rd hl hx) (hot.rd hl hx)).mono ?_; rintro e w10 ⟨rfl, hb10⟩; have bA10 := bA9.next hb10; have bx10 := bx9.next hb10; have hb11 := chain hb9 hb10; obtain ⟨m0, m1⟩ := bA10.cells; obtain ⟨n0, n1⟩ := bx10.cells))
  have B10 := chain B8 hb11
  have bB10 := bB8.next hb11
  have by10 := by8.next hb11
  have fy10 := fy8.next hb11
  clear c0 c1 d0 d1 k0 k1 l0 l1 m0 m1 n0 n1 bA8 bB8 bx8 by8 fx8 fy8 B8 hb9 hb10 hb11 bA9 bx9 fx9 hot hgt bA10 bx10 r8 s8
  obtain ⟨c0, c1⟩ := bB10.cells
  obtain ⟨d0, d1⟩ := by10.cells
  have s10 := hs.later B10
  go_wp2_with fail
  go_region_held3 (fun u => u.cell? ⟨w.heap.size + 1, 0, none⟩ = some (Value.int IntKind.i64 V) ∧ u.cell? ⟨w.heap.size + 1, 1, none⟩ = some (Value.slice b ys.length d) ∧ u.cell? ⟨w7.heap.size, 0, none⟩ = some (Value.int IntKind.i64 V) ∧ u.cell? ⟨w7.heap.size, 1, none⟩ = some (Value.slice (some ⟨gy, 0, none⟩) ys.length ys.length)) (simp [*])
    (first
      | (go_at_call 43; refine (toBits_any _ _ _ _ _ ?_).mono ?_; exact s10; rintro e w11 ⟨gt, rfl, hgt, hot, hb11⟩; replace hb11 := undrewC hb11; have bB11 := Blk.next (w := w10) bB10 hb11; have by11 := Blk.next (w := w10) by10 hb11; have fy11 := Fr.next (w := w10) fy10 hb11; obtain ⟨k0, k1⟩ := bB11.cells; obtain ⟨l0, l1⟩ := by11.cells)
      | (go_at_call 44; refine (eqBits_same _ _ _ _ _ _ _ (fy11.rd hl' hy) (hot.rd hl' hy)).mono ?_; rintro e w12 ⟨rfl, hb12⟩; have bB12 := bB11.next hb12; have by12 := by11.next hb12; have hb13 := chain hb11 hb12; obtain ⟨m0, m1⟩ := bB12.cells; obtain ⟨n0, n1⟩ := by12.cells))
  have B12 := chain B10 hb13
  go_wp2
  go_ret
  exact ⟨rfl, B12⟩

theorem walk_FnExactCompareBits (W : Int) (a : Option Addr) (n c : Nat) (_ : (Lit.int .i64 W).wf = true) (hn : n ≤ 9223372036854775807) (V : Int) (b : Option Addr) (m d : Nat) (_ : (Lit.int .i64 V).wf = true) (hm : m ≤ 9223372036854775807) (w : World)
    (hx : n ≤ 1048576 → ∃ xs : List Nat, xs.length = n ∧ Rd w a xs) (hy : m ≤ 1048576 → ∃ xs : List Nat, xs.length = m ∧ Rd w b xs) :
    Calls Try.prog 16 #[.agg #[.int .i64 W, .slice a n c], .agg #[.int .i64 V, .slice b m d]] w fun e w' => e = .returned (.bool true) ∧ Below w.heap.size w w' := by
  rcases Nat.lt_or_ge 1048576 n with h | h
  · exact lawB1_FnExactCompareBits W a n c V b m d w h hn
  · rcases Nat.lt_or_ge 1048576 (n + m) with h' | h'
    · exact lawB2_FnExactCompareBits W a n c V b m d w h h' hm
    · obtain ⟨xs, rfl, hr⟩ := hx h
      obtain ⟨ys, rfl, hs⟩ := hy (by omega)
      exact lawS_FnExactCompareBits W a c xs V b d ys w hr hs h'

end Go.Proofs.Ytjlfcnaigadjcaa
