/- The law FnExactBitsOf returns true, whatever it is handed. -/
import Derived.Test.YtjlfcnaigadjcaaY
namespace Go.Proofs.Ytjlfcnaigadjcaa
set_option linter.unusedVariables false
set_option linter.unusedSimpArgs false
open Go.RowKit

set_option maxHeartbeats 2000000 in
set_option maxRecDepth 100000 in
theorem lawS_FnExactBitsOf (W n : Int) (RW : Int) (ry : List Nat) (rb : Bool) (hRl : ry.length ≤ 1048576) (hRx : ∀ x ∈ ry, x < 18446744073709551616) (w : World)
    (hS : ∀ (u : World), Calls Try.prog 48 #[.int .i64 W, .int .i64 n] u (RetB u (RW, ry, rb)))
    (hI : ∀ (u : World), Calls Try.prog 49 #[.int .i64 W, .int .i64 n] u (RetB u (RW, ry, rb))) :
    Calls Try.prog 10 #[.int .i64 W, .int .i64 n] w fun e w' => e = .returned (.bool true) ∧ Below w.heap.size w w' := by
  have HS : Hid _ := hS
  have HI : Hid _ := hI
  clear hS hI
  go_enter Try.func10, Try.ntmps10
  go_wp2_with fail
  refine (HS.out _).mono ?_
  intro e w3 hret
  obtain ⟨aw, cw, rfl, fw3, hb3⟩ := hret.fr
  clear hret HS
  dsimp only at fw3 ⊢
  go_wp2_with fail
  refine (HI.out _).mono ?_
  intro e w5 hret
  obtain ⟨ag, cg, rfl, fg5, hb5⟩ := hret.fr
  have B5 := chain (Ba hb3 _) hb5
  have bw5 := (Blk.new w3 _ _ _).next hb5
  have fw5 := (fw3.alloc _).next hb5
  rw [World.size_alloc] at fg5
  dsimp only at fg5 ⊢
  obtain ⟨c0, c1⟩ := bw5.cells
  have l5 := bw5.lt
  have s3 := hb3.size
  clear hret fw3 hb5 hb3
  go_wp2_with fail
  refine (eqBits_same _ _ _ _ _ _ _ ((fg5.alloc _).rd hRl hRx) ((fw5.alloc _).rd hRl hRx)).mono ?_
  rintro e w6 ⟨rfl, hb6⟩
  have B6 := chain (Ba B5 _) hb6
  have bw6 := (bw5.alloc _).next hb6
  have bg6 := (Blk.new w5 _ _ _).next hb6
  have fw6 := (fw5.alloc _).next hb6
  have fg6 := (fg5.alloc _).next hb6
  clear c0 c1 B5 bw5 fw5 fg5 hb6
  obtain ⟨c0, c1⟩ := bg6.cells
  go_wp2_with fail
  refine (markBits_fr _ _ _ 1 _ _ _ _ hRl (by omega) fg6).mono ?_
  rintro e w11 ⟨rfl, fg11, hm11⟩
  have B11 := hm11.below fg6 B6 (by omega)
  have bw11 := bw6.mark fg6 hm11 (by decide)
  have bg11 := bg6.mark fg6 hm11 (by decide)
  have fw11 := fw6.mark fg6 hm11 (by omega)
  clear c0 c1 B6 bw6 bg6 fw6 fg6 hm11
  obtain ⟨c0, c1⟩ := bg11.cells
  go_wp2_with fail
  refine (heldBits_fr _ _ _ 1 _ _ _ _ (by omega) hRl fg11).mono ?_
  rintro e w12 ⟨rfl, hb12⟩
  have B12 := chain B11 hb12
  have bw12 := bw11.next hb12
  have bg12 := bg11.next hb12
  have fw12 := fw11.next hb12
  have fg12 := fg11.next hb12
  clear c0 c1 B11 bw11 bg11 fw11 fg11 hb12
  go_wp2_with fail
  refine (HI.out _).mono ?_
  intro e w14 hret
  obtain ⟨ah, ch, rfl, fh14, hb14⟩ := hret.fr
  have B14 := chain B12 hb14
  have bw14 := bw12.next hb14
  have bg14 := bg12.next hb14
  have fw14 := fw12.next hb14
  have fg14 := fg12.next hb14
  have l14 := bw14.lt
  dsimp only at fh14 ⊢
  clear hret HI B12 bw12 bg12 fw12 fg12 hb14
  obtain ⟨d0, d1⟩ := bw14.cells
  go_wp2_with fail
  refine (eqBits_same _ _ _ _ _ _ _ ((fh14.alloc _).rd hRl hRx) ((fw14.alloc _).rd hRl hRx)).mono ?_
  rintro e w15 ⟨rfl, hb15⟩
  have B15 := chain (Ba B14 _) hb15
  have bg15 := (bg14.alloc _).next hb15
  have fg15 := (fg14.alloc _).next hb15
  clear d0 d1 l14 B14 bw14 bg14 fw14 fg14 fh14 hb15
  obtain ⟨c0, c1⟩ := bg15.cells
  go_wp2_with fail
  refine (heldBits_fr _ _ _ 1 _ _ _ _ (by omega) hRl fg15).mono ?_
  rintro e w16 ⟨rfl, hb16⟩
  have B16 := chain B15 hb16
  clear hb16 B15 bg15 fg15 c0 c1
  go_wp2
  go_ret
  exact ⟨rfl, B16⟩

theorem ofR_ok (W n : Int) : (ofR W n).2.1.length ≤ 1048576 ∧ ∀ x ∈ (ofR W n).2.1, x < 18446744073709551616 := by
  unfold ofR
  split
  · refine ⟨?_, pack_lt _⟩
    simp only [pack_len, nBits_len]
    omega
  · exact ⟨by simp [noR], by simp [noR]⟩

theorem walk_FnExactBitsOf (W : Int) (_ : (Lit.int .i64 W).wf = true) (n : Int) (wn : (Lit.int .i64 n).wf = true) (w : World) :
    Calls Try.prog 10 #[.int .i64 W, .int .i64 n] w fun e w' => e = .returned (.bool true) ∧ Below w.heap.size w w' := by
  have hb : n ≤ 9223372036854775807 := by
    simp [Lit.wf, IntKind.min, IntKind.max, IntKind.signed, IntKind.bits] at wn
    omega
  exact lawS_FnExactBitsOf W n (ofR W n).1 (ofR W n).2.1 (ofR W n).2.2 (ofR_ok W n).1 (ofR_ok W n).2 w (fun u => specOf_any W n u hb) (fun u => implOf_any W n u hb)

end Go.Proofs.Ytjlfcnaigadjcaa
