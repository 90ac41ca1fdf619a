/- The law FnExactReadBits returns true, whatever it is handed. -/
import Derived.Test.YtiaoncdnkemokaaRJ
import Derived.Test.YtiaoncdnkemokaaR
namespace Go.Proofs.Ytiaoncdnkemokaa
set_option linter.unusedVariables false
set_option linter.unusedSimpArgs false
open Go.RowKit

set_option maxHeartbeats 2000000 in
set_option maxRecDepth 100000 in
theorem lawS_FnExactReadBits (s : ByteArray) (hs : s.size ≤ 1048576) (RW : Int) (ry : List Nat) (rb : Bool) (hRl : ry.length ≤ 1048576) (hRx : ∀ x ∈ ry, x < 18446744073709551616) (w : World)
    (hS : ∀ (u : World), Calls Try.prog 26 #[.string s] u (RetB u (RW, ry, rb)))
    (hI : ∀ (u : World), Calls Try.prog 22 #[.string s] u (RetB u (RW, ry, rb))) :
    Calls Try.prog 8 #[.string s] w fun e w' => e = .returned (.bool true) ∧ Below w.heap.size w w' := by
  have HS : Hid _ := hS
  have HI : Hid _ := hI
  clear hS hI
  have hsi : ¬ (1048576 : Int) < (s.size : Int) := by omega
  go_enter Try.func8, Try.ntmps8
  go_wp2_with fail
  refine (HS.out _).mono ?_
  intro e w3 hret
  obtain ⟨aw, cw, rfl, fw3, hb3⟩ := hret.fr
  clear hret HS
  dsimp only at fw3 ⊢
  go_wp2_with fail
  refine (HI.out _).mono ?_
  intro e w5 hret
  obtain ⟨ag, cg, rfl, fg5, hb5⟩ := hret.fr
  have B5 := chain (Ba hb3 _) hb5
  have bw5 := (Blk.new w3 _ _ _).next hb5
  have fw5 := (fw3.alloc _).next hb5
  rw [World.size_alloc] at fg5
  dsimp only at fg5 ⊢
  obtain ⟨c0, c1⟩ := bw5.cells
  have l5 := bw5.lt
  have s3 := hb3.size
  clear hret fw3 hb5 hb3
  go_wp2_with fail
  refine (eqBits_same _ _ _ _ _ _ _ ((fg5.alloc _).rd hRl hRx) ((fw5.alloc _).rd hRl hRx)).mono ?_
  rintro e w6 ⟨rfl, hb6⟩
  have B6 := chain (Ba B5 _) hb6
  have bw6 := (bw5.alloc _).next hb6
  have bg6 := (Blk.new w5 _ _ _).next hb6
  have fw6 := (fw5.alloc _).next hb6
  have fg6 := (fg5.alloc _).next hb6
  clear c0 c1 B5 bw5 fw5 fg5 hb6
  obtain ⟨c0, c1⟩ := bg6.cells
  go_wp2_with fail
  refine (markBits_fr _ _ _ 1 _ _ _ _ hRl (by omega) fg6).mono ?_
  rintro e w11 ⟨rfl, fg11, hm11⟩
  have B11 := hm11.below fg6 B6 (by omega)
  have bw11 := bw6.mark fg6 hm11 (by decide)
  have bg11 := bg6.mark fg6 hm11 (by decide)
  have fw11 := fw6.mark fg6 hm11 (by omega)
  clear c0 c1 B6 bw6 bg6 fw6 fg6 hm11
  obtain ⟨c0, c1⟩ := bg11.cells
  go_wp2_with fail
  refine (heldBits_fr _ _ _ 1 _ _ _ _ (by omega) hRl fg11).mono ?_
  rintro e w12 ⟨rfl, hb12⟩
  have B12 := chain B11 hb12
  have bw12 := bw11.next hb12
  have bg12 := bg11.next hb12
  have fw12 := fw11.next hb12
  have fg12 := fg11.next hb12
  clear c0 c1 B11 bw11 bg11 fw11 fg11 hb12
  go_wp2_with fail
  refine (HI.out _).mono ?_
  intro e w14 hret
  obtain ⟨ah, ch, rfl, fh14, hb14⟩ := hret.fr
  have B14 := chain B12 hb14
  have bw14 := bw12.next hb14
  have bg14 := bg12.next hb14
  have fw14 := fw12.next hb14
  have fg14 := fg12.next hb14
  have l14 := bw14.lt
  dsimp only at fh14 ⊢
  clear hret HI B12 bw12 bg12 fw12 fg12 hb14
  obtain ⟨d0, d1⟩ := bw14.cells
  go_wp2_with fail
  refine (eqBits_same _ _ _ _ _ _ _ ((fh14.alloc _).rd hRl hRx) ((fw14.alloc _).rd hRl hRx)).mono ?_
  rintro e w15 ⟨rfl, hb15⟩
  have B15 := chain (Ba B14 _) hb15
  have bg15 := (bg14.alloc _).next hb15
  have fg15 := (fg14.alloc _).next hb15
  clear d0 d1 l14 B14 bw14 bg14 fw14 fg14 fh14 hb15
  obtain ⟨c0, c1⟩ := bg15.cells
  go_wp2_with fail
  refine (heldBits_fr _ _ _ 1 _ _ _ _ (by omega) hRl fg15).mono ?_
  rintro e w16 ⟨rfl, hb16⟩
  have B16 := chain B15 hb16
  clear hb16 B15 bg15 fg15 c0 c1
  go_wp2
  go_ret
  exact ⟨rfl, B16⟩

theorem fromR_ok (l : List Nat) : (fromR l).2.1.length ≤ 1048576 ∧ ∀ x ∈ (fromR l).2.1, x < 18446744073709551616 := by
  unfold fromR
  split
  · rename_i h
    refine ⟨?_, pack_lt _⟩
    show (pack l).length ≤ _
    rw [pack_len]
    omega
  · exact ⟨by simp, by simp⟩

theorem readR_ok (s : ByteArray) : (readR s).2.1.length ≤ 1048576 ∧ ∀ x ∈ (readR s).2.1, x < 18446744073709551616 := by
  have hno : noR.2.1.length ≤ 1048576 ∧ ∀ x ∈ noR.2.1, x < 18446744073709551616 := ⟨by simp [noR], by simp [noR]⟩
  unfold readR
  split
  · cases readTo (bn s 1 == 120) s (s.size - 2) with
    | none => exact hno
    | some l => exact fromR_ok l.reverse
  · exact hno

theorem walk_FnExactReadBits (s : ByteArray) (ws : s.size ≤ maxLen) (w : World) :
    Calls Try.prog 8 #[.string s] w fun e w' => e = .returned (.bool true) ∧ Below w.heap.size w w' := by
  have hm : s.size ≤ 9223372036854775807 := by unfold maxLen at ws; omega
  by_cases h : s.size ≤ 1048576
  · exact lawS_FnExactReadBits s h (readR s).1 (readR s).2.1 (readR s).2.2 (readR_ok s).1 (readR_ok s).2 w (fun u => specRead_any s u) (fun u => implRead_any s u hm)
  · have hsi : (1048576 : Int) < (s.size : Int) := by omega
    go_enter Try.func8, Try.ntmps8
    go_wp2
    go_ret
    exact ⟨rfl, Below.refl _ _⟩

end Go.Proofs.Ytiaoncdnkemokaa
