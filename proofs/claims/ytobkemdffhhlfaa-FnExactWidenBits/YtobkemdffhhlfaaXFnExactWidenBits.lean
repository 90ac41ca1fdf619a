/- The law FnExactWidenBits returns true, whatever it is handed. -/
import Derived.Test.YtobkemdffhhlfaaR
import Derived.Test.YtobkemdffhhlfaaW
namespace Go.Proofs.Ytobkemdffhhlfaa
set_option linter.unusedVariables false
set_option linter.unusedSimpArgs false
open Go.RowKit

set_option maxHeartbeats 2000000 in
set_option maxRecDepth 100000 in
theorem lawS_FnExactWidenBits (W : Int) (a : Option Addr) (c : Nat) (xs : List Nat) (m : Int) (sign : Bool) (RW : Int) (ry : List Nat) (rb : Bool) (hRl : ry.length ≤ 1048576) (hRx : ∀ x ∈ ry, x < 18446744073709551616) (w : World) (hr : Rd w a xs)
    (hS : ∀ (u : World) (a : Option Addr) (c : Nat), Rd u a xs → Calls Try.prog 53 #[.agg #[.int .i64 W, .slice a xs.length c], .int .i64 m, .bool sign] u (RetB u (RW, ry, rb)))
    (hI : ∀ (u : World) (a : Option Addr) (c : Nat), Rd u a xs → Calls Try.prog 36 #[.agg #[.int .i64 W, .slice a xs.length c], .int .i64 m, .bool sign] u (RetB u (RW, ry, rb))) :
    Calls Try.prog 15 #[.agg #[.int .i64 W, .slice a xs.length c], .int .i64 m, .bool sign] w fun e w' => e = .returned (.bool true) ∧ Below w.heap.size w w' := by
  have hl := hr.1
  have hx := hr.2.1
  have HS : Hid _ := hS
  have HI : Hid _ := hI
  clear hS hI
  go_enter Try.func15, Try.ntmps15
  go_wp2_with fail
  refine (szBits_yes _ _ _ _ _ _ (by omega) (by omega) (by omega) (by omega)).mono ?_
  rintro e w1 ⟨rfl, hb1⟩
  have B1 := chain (Ba (Below.refl _ w) _) hb1
  have bA1 := (Blk.new w _ _ _).next hb1
  obtain ⟨c0, c1⟩ := bA1.cells
  clear hb1
  go_wp2_with fail
  refine (toBits_any _ _ _ _ _ (hr.later B1)).mono ?_
  rintro e w2 ⟨g1, rfl, hg1, ho1, hb2⟩
  have B2 := chain B1 hb2
  have bA2 := bA1.next hb2
  clear c0 c1 bA1 B1 hb2
  go_wp2_with fail
  refine (HS.out w2 _ _ (ho1.rd hl hx)).mono ?_
  intro e w3 hret
  obtain ⟨aw, cw, rfl, fw3, hb3⟩ := hret.fr
  have B3 := chain B2 hb3
  have bA3 := bA2.next hb3
  have l3 := bA3.lt
  obtain ⟨c0, c1⟩ := bA3.cells
  clear hret ho1 hg1 B2 bA2 hb3 HS
  dsimp only at fw3 ⊢
  go_wp2_with fail
  refine (toBits_any _ _ _ _ _ (hr.later (Ba B3 _))).mono ?_
  rintro e w4 ⟨gx, rfl, hgx, hox, hb4⟩
  have B4 := chain (Ba B3 _) hb4
  have bA4 := (bA3.alloc _).next hb4
  have bw4 := (Blk.new w3 _ _ _).next hb4
  have fw4 := (fw3.alloc _).next hb4
  have fx4 := hox.fr hgx
  have l4 : w3.heap.size < w4.heap.size := bw4.lt
  rw [World.size_alloc] at fx4
  clear c0 c1 bA3 fw3 hb4 hox hgx
  go_wp2_with fail
  refine (HI.out _ _ _ ((fx4.alloc _).rd hl hx)).mono ?_
  intro e w5 hret
  obtain ⟨ag, cg, rfl, fg5, hb5⟩ := hret.fr
  have B5 := chain (Ba B4 _) hb5
  have bA5 := (bA4.alloc _).next hb5
  have bw5 := (bw4.alloc _).next hb5
  have bx5 := (Blk.new w4 _ _ _).next hb5
  have fw5 := (fw4.alloc _).next hb5
  have fx5 := (fx4.alloc _).next hb5
  have l5 : w4.heap.size < w5.heap.size := bx5.lt
  rw [World.size_alloc] at fg5
  dsimp only at fg5 ⊢
  obtain ⟨c0, c1⟩ := bw5.cells
  have l35 := bw5.lt
  clear hret B4 bA4 bw4 fw4 fx4 hb5
  go_wp2_with fail
  refine (eqBits_same _ _ _ _ _ _ _ ((fg5.alloc _).rd hRl hRx) ((fw5.alloc _).rd hRl hRx)).mono ?_
  rintro e w6 ⟨rfl, hb6⟩
  have B6 := chain (Ba B5 _) hb6
  have bA6 := (bA5.alloc _).next hb6
  have bw6 := (bw5.alloc _).next hb6
  have bx6 := (bx5.alloc _).next hb6
  have bg6 := (Blk.new w5 _ _ _).next hb6
  have fw6 := (fw5.alloc _).next hb6
  have fx6 := (fx5.alloc _).next hb6
  have fg6 := (fg5.alloc _).next hb6
  have l6 : w5.heap.size < w6.heap.size := bg6.lt
  clear c0 c1 B5 bA5 bw5 bx5 fw5 fx5 fg5 hb6
  obtain ⟨c0, c1⟩ := bA6.cells
  obtain ⟨d0, d1⟩ := bx6.cells
  have r6 := hr.later B6
  go_wp2_with fail
  go_region_held3 (fun u => u.cell? ⟨w.heap.size, 0, none⟩ = some (Value.int IntKind.i64 W) ∧ u.cell? ⟨w.heap.size, 1, none⟩ = some (Value.slice a xs.length c) ∧ u.cell? ⟨w4.heap.size, 0, none⟩ = some (Value.int IntKind.i64 W) ∧ u.cell? ⟨w4.heap.size, 1, none⟩ = some (Value.slice (some { block := gx, off := 0 }) xs.length xs.length)) (simp [*])
    (first | (go_at_call 43; refine (toBits_any _ _ _ _ _ ?_).mono ?_; exact r6; rintro e w7 ⟨gt, rfl, hgt, hot, hb7⟩; replace hb7 := undrew hb7; have bA7 := Blk.next (w := w6) bA6 hb7; have bx7 := Blk.next (w := w6) bx6 hb7; have fx7 := Fr.next (w := w6) fx6 hb7; obtain ⟨k0, k1⟩ := bA7.cells; obtain ⟨m0, m1⟩ := bx7.cells) | (go_at_call 44; refine (eqBits_same _ _ _ _ _ _ _ (fx7.rd hl hx) (hot.rd hl hx)).mono ?_; rintro e w8 ⟨rfl, hb8⟩; replace hb8 := chain (W := w6) hb7 hb8; have bA8 := Blk.next (w := w6) bA6 hb8; have bx8 := Blk.next (w := w6) bx6 hb8; obtain ⟨k0, k1⟩ := bA8.cells; obtain ⟨m0, m1⟩ := bx8.cells))
  have B8 := chain B6 hb8
  have bw8 := bw6.next hb8
  have bg8 := bg6.next hb8
  have fw8 := fw6.next hb8
  have fx8 := fx6.next hb8
  have fg8 := fg6.next hb8
  have s8 := hb8.size
  try clear k1; try clear k0; try clear hot; try clear hgt; try clear hb8; try clear fx7; try clear bx7; try clear bA7; try clear hb7; try clear d1; try clear d0; try clear fg6; try clear fx6; try clear fw6; try clear bg6; try clear bx6; try clear bw6; try clear bA6; try clear B6; try clear hb6; try clear fx5; try clear fw5; try clear bx5; try clear bw5; try clear bA5; try clear B5; try clear hb5; try clear fg5; try clear fx4; try clear fw4; try clear bw4; try clear bA4; try clear B4; try clear hb4; try clear hox; try clear hgx; try clear bA3; try clear B3; try clear hb3; try clear fw3; try clear bA2; try clear B2; try clear hb2; try clear ho1; try clear hg1; try clear c1; try clear c0; try clear bA1; try clear B1; try clear hb1
  go_wp2_with fail
  refine (markBits_fr _ _ _ 1 _ _ _ _ hl (by omega) fx8).mono ?_
  rintro e w9 ⟨rfl, fx9, hm9⟩
  have B9 := hm9.below fx8 B8 (by omega)
  have bA9 := bA8.mark fx8 hm9 (by decide)
  have bw9 := bw8.mark fx8 hm9 (by decide)
  have bg9 := bg8.mark fx8 hm9 (by decide)
  have fw9 := fw8.mark fx8 hm9 (by omega)
  have fg9 := fg8.mark fx8 hm9 (by omega)
  have s9 := hm9.size
  try clear hm9; try clear fx9; try clear fg8; try clear fx8; try clear fw8; try clear bg8; try clear bw8; try clear B8; try clear m1; try clear m0; try clear bx8; try clear bA8
  obtain ⟨c0, c1⟩ := bg9.cells
  obtain ⟨d0, d1⟩ := bw9.cells
  go_wp2_with fail
  refine (eqBits_same _ _ _ _ _ _ _ (fg9.rd hRl hRx) (fw9.rd hRl hRx)).mono ?_
  rintro e w10 ⟨rfl, hb10⟩
  have B10 := chain B9 hb10
  have bA10 := bA9.next hb10
  have bw10 := bw9.next hb10
  have bg10 := bg9.next hb10
  have fw10 := fw9.next hb10
  have fg10 := fg9.next hb10
  have s10 := hb10.size
  try clear hb10; try clear d1; try clear d0; try clear c1; try clear c0; try clear fg9; try clear fw9; try clear bg9; try clear bw9; try clear bA9; try clear B9
  obtain ⟨c0, c1⟩ := bg10.cells
  go_wp2_with fail
  refine (markBits_fr _ _ _ 1 _ _ _ _ hRl (by omega) fg10).mono ?_
  rintro e w11 ⟨rfl, fg11, hm11⟩
  have B11 := hm11.below fg10 B10 (by omega)
  have bA11 := bA10.mark fg10 hm11 (by decide)
  have bw11 := bw10.mark fg10 hm11 (by decide)
  have bg11 := bg10.mark fg10 hm11 (by decide)
  have fw11 := fw10.mark fg10 hm11 (by omega)
  have s11 := hm11.size
  try clear hm11; try clear c1; try clear c0; try clear fg10; try clear fw10; try clear bg10; try clear bw10; try clear bA10; try clear B10
  obtain ⟨c0, c1⟩ := bg11.cells
  go_wp2_with fail
  refine (heldBits_fr _ _ _ 1 _ _ _ _ (by omega) hRl fg11).mono ?_
  rintro e w12 ⟨rfl, hb12⟩
  have B12 := chain B11 hb12
  have bA12 := bA11.next hb12
  have bw12 := bw11.next hb12
  have bg12 := bg11.next hb12
  have fw12 := fw11.next hb12
  have fg12 := fg11.next hb12
  have s12 := hb12.size
  try clear s12; try clear hb12; try clear c1; try clear c0; try clear s11; try clear fw11; try clear bg11; try clear bw11; try clear bA11; try clear B11; try clear fg11; try clear s10; try clear s9; try clear s8; try clear l6; try clear l5; try clear l4; try clear l3
  obtain ⟨c0, c1⟩ := bA12.cells
  go_wp2_with fail
  refine (toBits_any _ _ _ _ _ (hr.later B12)).mono ?_
  rintro e w13 ⟨g3, rfl, hg3, ho3, hb13⟩
  have B13 := chain B12 hb13
  have bw13 := bw12.next hb13
  have bg13 := bg12.next hb13
  have fw13 := fw12.next hb13
  have fg13 := fg12.next hb13
  try clear hb13; try clear hg3; try clear c1; try clear c0; try clear fg12; try clear fw12; try clear bg12; try clear bw12; try clear bA12; try clear B12
  go_wp2_with fail
  refine (HI.out _ _ _ (ho3.rd hl hx)).mono ?_
  intro e w14 hret
  obtain ⟨ah, ch, rfl, fh14, hb14⟩ := hret.fr
  have B14 := chain B13 hb14
  have bw14 := bw13.next hb14
  have bg14 := bg13.next hb14
  have fw14 := fw13.next hb14
  have fg14 := fg13.next hb14
  have l14 := bw14.lt
  dsimp only at fh14 ⊢
  try clear hb14; try clear fg13; try clear fw13; try clear bg13; try clear bw13; try clear B13; try clear ho3; try clear HI; try clear hx; try clear hl
  obtain ⟨d0, d1⟩ := bw14.cells
  go_wp2_with fail
  refine (eqBits_same _ _ _ _ _ _ _ ((fh14.alloc _).rd hRl hRx) ((fw14.alloc _).rd hRl hRx)).mono ?_
  rintro e w15 ⟨rfl, hb15⟩
  have B15 := chain (Ba B14 _) hb15
  have bg15 := (bg14.alloc _).next hb15
  have fg15 := (fg14.alloc _).next hb15
  try clear hb15; try clear d1; try clear d0; try clear l14; try clear fg14; try clear fw14; try clear bg14; try clear bw14; try clear B14; try clear fh14; try clear HI
  obtain ⟨c0, c1⟩ := bg15.cells
  go_wp2_with fail
  refine (heldBits_fr _ _ _ 1 _ _ _ _ (by omega) hRl fg15).mono ?_
  rintro e w16 ⟨rfl, hb16⟩
  have B16 := chain B15 hb16
  try clear hb16; try clear c1; try clear c0; try clear fg15; try clear bg15; try clear B15; try clear HI
  go_wp2
  go_ret
  exact ⟨rfl, B16⟩

theorem lawB_FnExactWidenBits (W : Int) (a : Option Addr) (n c : Nat) (m : Int) (sign : Bool) (w : World) (h : 1048576 < n) (hn : n ≤ 9223372036854775807) :
    Calls Try.prog 15 #[.agg #[.int .i64 W, .slice a n c], .int .i64 m, .bool sign] w fun e w' => e = .returned (.bool true) ∧ Below w.heap.size w w' := by
  go_enter Try.func15, Try.ntmps15
  go_wp2_with fail
  refine (szBits_no _ _ _ _ _ _ (by omega) (by omega) (by omega) (by omega)).mono ?_
  rintro e w1 ⟨rfl, hb1⟩
  have s1 := (St.start w _).next hb1
  go_wp2
  go_ret
  exact ⟨rfl, s1.below⟩

theorem widR_ok (W : Int) (xs : List Nat) (n : Int) (sign : Bool) : (widR W xs n sign).2.1.length ≤ 1048576 ∧ ∀ x ∈ (widR W xs n sign).2.1, x < 18446744073709551616 := by
  unfold widR
  split
  · rename_i h
    obtain ⟨h1, h2, h3, h4⟩ := h
    have hw := right_W h1
    refine ⟨?_, pack_lt _⟩
    simp only [pack_len, List.length_append, List.length_replicate, bitsTo_len]
    omega
  · exact ⟨by simp [noR], by simp [noR]⟩

theorem walk_FnExactWidenBits (W : Int) (a : Option Addr) (n c : Nat) (_ : (Lit.int .i64 W).wf = true) (hn : n ≤ 9223372036854775807) (m : Int) (_ : (Lit.int .i64 m).wf = true) (sign : Bool) (w : World) (hx : n ≤ 1048576 → ∃ xs : List Nat, xs.length = n ∧ Rd w a xs) :
    Calls Try.prog 15 #[.agg #[.int .i64 W, .slice a n c], .int .i64 m, .bool sign] w fun e w' => e = .returned (.bool true) ∧ Below w.heap.size w w' := by
  rcases Nat.lt_or_ge 1048576 n with h | h
  · exact lawB_FnExactWidenBits W a n c m sign w h hn
  · obtain ⟨xs, rfl, hr⟩ := hx h
    exact lawS_FnExactWidenBits W a c xs m sign (widR W xs m sign).1 (widR W xs m sign).2.1 (widR W xs m sign).2.2 (widR_ok W xs m sign).1 (widR_ok W xs m sign).2 w hr (fun u a c hu => specWid_any W a c xs m sign u hu) (fun u a c hu => implWid_any W a c xs m sign u hu)

end Go.Proofs.Ytobkemdffhhlfaa
