/- What the two BitsOk answer: both say just of right rows that they are right. -/
import Derived.Test.YteenmffhbgpahaaDoorA
import Derived.Test.YteenmffhbgpahaaDoorB
namespace Go.Proofs.YteenmffhbgpahaaDoor
set_option linter.unusedVariables false
set_option linter.unusedSimpArgs false
open Go.RowKit

theorem decide_wOk (W : Int) : decide (1 ≤ W ∧ W ≤ 4096) = wOk W := rfl

theorem ret_bool {a b : Bool} (h : a = b) : Ending.returned (.bool a) = .returned (.bool b) := by rw [h]
theorem ret_int {k : IntKind} {a b : Int} (h : a = b) : Ending.returned (.int k a) = .returned (.int k b) := by rw [h]

theorem implOk_any (W : Int) (a : Option Addr) (c : Nat) (xs : List Nat) (w : World) (hr : Rd w a xs) :
    Calls Tryd.prog 60 #[.agg #[.int .i64 W, .slice a xs.length c]] w fun e w' => e = .returned (.bool (rightB W xs)) ∧ Below w.heap.size w w' := by
  cases hw : wOk W with
  | false =>
    rw [rightB_no1 hw]
    go_enter Tryd.func60, Tryd.ntmps60
    go_wp2_with fail
    go_quiet ((go_at_call 53; exact Calls.quiet_of_same (widthOk_any _ _)))
    go_wp2
    go_ret
    exact ⟨rfl, below_drewN ((Below.refl _ _).alloc (Nat.le_refl _) _) _⟩
  | true =>
    have hW : 1 ≤ W ∧ W ≤ 4096 := by simpa [wOk] using hw
    by_cases hl : (xs.length : Int) = (W + 63) / 64
    · rw [rightB_clear hw hl, clear_last hr.2.1 hw hl]
      obtain ⟨h1, hx, h | ⟨b, o, rfl, hc⟩⟩ := hr
      · subst h; simp at hl; omega
      have hpos : 0 < xs.length := by omega
      have hcell := hc (xs.length - 1) (by omega)
      have hlt : xs.getD (xs.length - 1) 0 < 18446744073709551616 := by
        have e : xs.getD (xs.length - 1) 0 = xs[xs.length - 1]'(by omega) := by simp [List.getD, show xs.length - 1 < xs.length by omega]
        rw [e]; exact hx _ (List.getElem_mem _)
      have hblk : b < w.heap.size := block_lt_of_cell hcell
      have hne : ((xs.length : Int) != (W + 63) / 64) = false := by simp [hl]
      have hbl : Lib.bitLen (xs.getD (xs.length - 1) 0) ≤ 64 := Lib.bitLen_le _ 64 (by omega) hlt
      generalize xs.getD (xs.length - 1) 0 = y at *
      generalize hn : xs.length = n at *
      clear hc hx hn
      obtain ⟨hW1, hW2⟩ := hW
      have hn64 : n ≤ 64 := by omega
      clear hl
      obtain ⟨m, rfl⟩ : ∃ m, n = m + 1 := ⟨n - 1, by omega⟩
      simp only [Nat.add_sub_cancel] at hcell
      have hi0 : (0 : Int) ≤ (m : Int) := by omega
      have hi1 : (m : Int) < (m : Int) + 1 := by omega
      go_enter Tryd.func60, Tryd.ntmps60
      go_wp2_with fail
      go_quiet ((first | (go_at_call 53; exact Calls.quiet_of_same (widthOk_any _ _)) | (go_at_call 74; exact Calls.quiet_of_same (wordsFor_any _ hW1 hW2 _))))
      go_wp2_with fail
      go_quiet ((go_at_call 75; refine (len64_any _ _ hlt).mono ?_; rintro e w' ⟨rfl, rfl⟩; exact ⟨rfl, _, rfl⟩))
      go_wp2
      go_ret
      exact ⟨ret_bool (by rw [Bool.eq_iff_iff]; simp; omega), below_drewN (below_drewN ((Below.refl _ _).alloc (Nat.le_refl _) _) _) _⟩
    · rw [rightB_no2 hl]
      have hne : ((xs.length : Int) != (W + 63) / 64) = true := by simp [hl]
      obtain ⟨hW1, hW2⟩ := hW
      have h1 := hr.1
      clear hl hr
      go_enter Tryd.func60, Tryd.ntmps60
      go_wp2_with fail
      go_quiet ((first | (go_at_call 53; exact Calls.quiet_of_same (widthOk_any _ _)) | (go_at_call 74; exact Calls.quiet_of_same (wordsFor_any _ hW1 hW2 _))))
      go_wp2
      go_ret
      exact ⟨rfl, below_drewN ((Below.refl _ _).alloc (Nat.le_refl _) _) _⟩

theorem specOk_any (W : Int) (a : Option Addr) (c : Nat) (xs : List Nat) (w : World) (hr : Rd w a xs) :
    Calls Tryd.prog 47 #[.agg #[.int .i64 W, .slice a xs.length c]] w fun e w' => e = .returned (.bool (rightB W xs)) ∧ Below w.heap.size w w' := by
  have hlen := hr.1
  cases hw : wOk W with
  | false =>
    rw [rightB_no1 hw]
    clear hr
    have hd : decide (1 ≤ W ∧ W ≤ 4096) = false := hw
    go_enter Tryd.func47, Tryd.ntmps47
    go_wp2_with (go_at_call 46; refine (l1In_any _ _ _ _).mono ?_; rintro e w' ⟨rfl, rfl⟩)
    go_ret
    exact ⟨rfl, (Below.refl _ _).alloc (Nat.le_refl _) _⟩
  | true =>
    have hd : decide (1 ≤ W ∧ W ≤ 4096) = true := hw
    have hW : 1 ≤ W ∧ W ≤ 4096 := by simpa [wOk] using hw
    obtain ⟨hW1, hW2⟩ := hW
    by_cases hl : (xs.length : Int) = (W + 63) / 64
    · rw [rightB_clear hw hl]
      have hne : ((xs.length : Int) != (W + 63) / 64) = false := by simp [hl]
      have hcl := clear_iff W xs
      generalize hcv : clear W xs = cv at hcl ⊢
      have Hcl := show Hid _ from hcl
      have HL : Hid ((xs.length : Int) = (W + 63) / 64) := hl
      clear hcl hl hcv
      obtain ⟨V, rfl⟩ := Int.eq_ofNat_of_zero_le (show 0 ≤ W by omega)
      go_enter Tryd.func47, Tryd.ntmps47
      go_wp2_with (go_at_call 46; refine (l1In_any _ _ _ _).mono ?_; rintro e w' ⟨rfl, rfl⟩)
      clear hne
      go_loopw [3] (fun i wr => ∃ k : Nat, V ≤ k ∧ k ≤ 64 * xs.length ∧ i = .int .i64 k ∧ (∀ j : Nat, V ≤ j → j < k → tb xs j = false) ∧ Below (w.heap.size + 1) (w.alloc (Obj.cells #[Value.int IntKind.i64 V, Value.slice a xs.length c] 52)) wr) (fun i _ => 64 * xs.length - (intOf i).toNat)
      case atStart => exact ⟨V, Nat.le_refl _, by have := HL.out; omega, rfl, fun j h1 h2 => by omega, Below.refl _ _⟩
      case round =>
        obtain ⟨k, hk1, hk2, rfl, hz, hbel⟩ := hrel
        have HZ : Hid (∀ j : Nat, V ≤ j → j < k → tb xs j = false) := hz
        have hc0 : wr.cell? ⟨w.heap.size, 0, none⟩ = some (Value.int IntKind.i64 V) := by rw [hbel.cell (by simp)]; simp
        have hc1 : wr.cell? ⟨w.heap.size, 1, none⟩ = some (Value.slice a xs.length c) := by rw [hbel.cell (by simp)]; simp
        have hsz := hbel.size
        simp at hsz
        have hr' : Rd wr a xs := (hr.later ((Below.refl _ _).alloc (Nat.le_refl _) _)).later (hbel.mono (by simp))
        have HB := show Hid _ from hbel
        clear hz hbel hr
        by_cases hlt : k < 64 * xs.length
        · cases htb : tb xs k with
          | true =>
            go_wp2_with (go_at_call 69; refine (l1Bit_any _ _ _ _ _ _ hr' hlt).mono ?_; rintro e w1 ⟨rfl, hb1⟩)
            go_ret
            refine ⟨ret_bool ?_, ((((Below.refl _ _).alloc (Nat.le_refl _) _).trans (HB.out.mono (Nat.le_succ _))).trans (hb1.mono (by omega)))⟩
            cases cv with
            | false => rfl
            | true => exact absurd (Hcl.out.1 rfl k (by omega) hlt) (by simp [htb])
          | false =>
            go_wp2_with (go_at_call 69; refine (l1Bit_any _ _ _ _ _ _ hr' hlt).mono ?_; rintro e w1 ⟨rfl, hb1⟩)
            go_roundw
            case rel =>
              refine ⟨k + 1, by omega, by omega, by go_num, fun j h1 h2 => ?_, HB.out.trans (hb1.mono (by omega))⟩
              by_cases hj : j = k
              · rw [hj]; exact htb
              · exact HZ.out j h1 (by omega)
            case measure => simp [intOf]; omega
        · go_wp2
          go_ret
          refine ⟨ret_bool ?_, ((Below.refl _ _).alloc (Nat.le_refl _) _).trans (HB.out.mono (Nat.le_succ _))⟩
          exact (Hcl.out.2 fun j h1 h2 => HZ.out j (by omega) (by omega)).symm
    · rw [rightB_no2 hl]
      have hne : ((xs.length : Int) != (W + 63) / 64) = true := by simp [hl]
      clear hl hr
      go_enter Tryd.func47, Tryd.ntmps47
      go_wp2_with (go_at_call 46; refine (l1In_any _ _ _ _).mono ?_; rintro e w' ⟨rfl, rfl⟩)
      go_ret
      exact ⟨rfl, (Below.refl _ _).alloc (Nat.le_refl _) _⟩

end Go.Proofs.YteenmffhbgpahaaDoor
