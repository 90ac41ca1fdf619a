/- What the program's CnfOk answers. -/
import Derived.Test.YtpajfeboaeoclaaCM
import Derived.Handy
namespace Go.Proofs.Ytpajfeboaeoclaa
set_option linter.unusedVariables false
set_option linter.unusedSimpArgs false
open Go.RowKit

theorem clauseOk_any (S : Int) (hS : 0 ≤ S ∧ S ≤ 400) (v1 : Value) (a : Option Addr) (c : Nat) (ks : List Int) (w : World) (hr : RdI w a ks) :
    Calls Try.prog 34 #[.agg #[.int .i64 S, v1], .slice a ks.length c] w fun e w' => e = .returned (.bool (claR S ks)) ∧ Below w.heap.size w w' := by
  have hl := hr.1
  have hb0 : Below w.heap.size w (w.alloc (Obj.cells #[Value.int .i64 S, v1] 27)) := (Below.refl _ _).alloc (Nat.le_refl _) _
  have B0 := kide hb0
  have HR := kide (hr.later hb0)
  have c0 : (w.alloc (Obj.cells #[Value.int .i64 S, v1] 27)).cell? ⟨w.heap.size, 0, none⟩ = some (Value.int .i64 S) := by simp
  have c1 : (w.alloc (Obj.cells #[Value.int .i64 S, v1] 27)).cell? ⟨w.heap.size, 1, none⟩ = some v1 := by simp
  have l0 : w.heap.size < (w.alloc (Obj.cells #[Value.int .i64 S, v1] 27)).heap.size := by simp
  by_cases h4 : ks.length ≤ 400
  · have hZ : claR S ks = clR S 0 ks := by rw [claR, decide_eq_true h4]; rfl
    rw [hZ]
    generalize hzz : clR S 0 ks = Z
    have HZ := kide hzz
    have HSS := kide hS
    clear hzz hZ hr hb0
    go_enter Try.func34, Try.ntmps34
    go_wp2_with fail
    generalize (w.alloc (Obj.cells #[Value.int .i64 S, v1] 27)) = w0 at *
    go_loopw [5, 13] (fun l i wr => ∃ (k : Nat) (last : Int), k ≤ ks.length ∧ i = .int .i64 (k : Int) ∧ l = .int .i64 last ∧ clR S last (ks.drop k) = Z ∧ Below w0.heap.size w0 wr) (fun _ i _ => ks.length - (intOf i).toNat)
    case atStart => exact ⟨0, 0, Nat.zero_le _, rfl, rfl, by simpa using HZ.out, Below.refl _ _⟩
    case round =>
      obtain ⟨k, last, hk, rfl, rfl, hz, hbel⟩ := hrel
      have HB := kide hbel
      have d0 := kcell hbel w.heap.size 0 l0
      have d1 := kcell hbel w.heap.size 1 l0
      rw [c0] at d0
      rw [c1] at d1
      have lw : w.heap.size < wr.heap.size := Nat.lt_of_lt_of_le l0 hbel.size
      by_cases hlt : k < ks.length
      · obtain ⟨-, hi64, h | ⟨b3, o3, rfl, hc3⟩⟩ := HR.out.later hbel
        · subst h; simp at hlt
        have e3 := hc3 k hlt
        rw [clR_step hlt] at hz
        generalize ks.getD k 0 = x at *
        have i0 : (k : Int) < (ks.length : Int) := by omega
        have HNO := kide (fun u => numberOk_any S HSS.out v1 x u)
        have HZJ := kide hz
        have g3 := block_lt_of_cell e3
        clear hc3 hi64 hz hbel hS
        cases hnu : numR S x with
        | false =>
          rw [hnu] at HNO
          have HF : Hid (Z = false) := by have h := HZJ.out; rw [hnu] at h; simp at h; exact h
          clear hnu
          go_wp2_with fail
          refine Calls.mono (HNO.out _) ?_
          rintro e w1 ⟨rfl, hb1⟩
          go_wp2_with fail
          go_ret
          exact ⟨ret_bool HF.out.symm, B0.out.trans ((HB.out.trans (hb1.mono HB.out.size)).mono B0.out.size)⟩
        | true =>
          rw [hnu] at HNO
          have hxx : -400 ≤ x ∧ x ≤ 400 := by
            have h := hnu
            simp [numR] at h
            have := HSS.out
            omega
          obtain ⟨hx1, hx2⟩ := hxx
          by_cases hlx : last < absI x
          · have HNX : Hid (clR S (absI x) (ks.drop (k + 1)) = Z) := by
              show _ = _
              have h := HZJ.out
              rw [hnu, decide_eq_true hlx] at h
              simpa using h
            clear hnu
            go_wp2_with fail
            refine Calls.mono (HNO.out _) ?_
            rintro e w1 ⟨rfl, hb1⟩
            go_wp2_with (go_at_call 38; refine Calls.mono (switchOf_any _ ⟨hx1, hx2⟩ _) ?_; rintro e w2 ⟨rfl, hw⟩; obtain rfl := hw)
            go_roundw
            case rel => exact ⟨k + 1, absI x, by omega, by go_num, rfl, HNX.out, HB.out.trans (hb1.mono HB.out.size)⟩
            case measure => simp [intOf]; omega
          · have HF : Hid (Z = false) := by have h := HZJ.out; rw [decide_eq_false hlx] at h; simp at h; exact h
            clear hnu
            go_wp2_with fail
            refine Calls.mono (HNO.out _) ?_
            rintro e w1 ⟨rfl, hb1⟩
            go_wp2_with (go_at_call 38; refine Calls.mono (switchOf_any _ ⟨hx1, hx2⟩ _) ?_; rintro e w2 ⟨rfl, hw⟩; obtain rfl := hw)
            go_ret
            exact ⟨ret_bool HF.out.symm, B0.out.trans ((HB.out.trans (hb1.mono HB.out.size)).mono B0.out.size)⟩
      · have HZT : Hid (Z = true) := by
          show _ = _
          rw [← hz, List.drop_eq_nil_of_le (by omega)]
          rfl
        clear hz hbel
        go_wp2_with fail
        go_ret
        exact ⟨ret_bool HZT.out.symm, B0.out.trans (HB.out.mono B0.out.size)⟩
  · have HR : Hid (claR S ks = false) := by show _ = _; rw [claR, decide_eq_false h4]; rfl
    clear hr hb0
    go_enter Try.func34, Try.ntmps34
    go_wp2_with fail
    go_ret
    exact ⟨ret_bool HR.out.symm, B0.out⟩

/-- The closure: is a clause not right? The Cnf lies in a box. -/
theorem wrong_any (S : Int) (hS : 0 ≤ S ∧ S ≤ 400) (v1 : Value) (a : Option Addr) (c : Nat) (ks : List Int) (g : Nat) (w : World) (hr : RdI w a ks) (h0 : w.cell? ⟨g, 0, none⟩ = some (.int .i64 S)) (h1 : w.cell? ⟨g, 1, none⟩ = some v1) :
    Calls Try.prog 33 #[.slice a ks.length c, .pointer (some ⟨g, 0, none⟩)] w fun e w' => e = .returned (.bool (!claR S ks)) ∧ Below w.heap.size w w' := by
  have HC := kide (fun u hu => clauseOk_any S hS v1 a c ks u (hr.later hu))
  clear hr
  have hl := block_lt_of_cell h0
  go_enter Try.func33, Try.ntmps33
  go_wp2_with fail
  refine Calls.mono (HC.out _ (Below.refl _ _)) ?_
  rintro e w1 ⟨rfl, hb1⟩
  go_wp2_with fail
  go_ret
  exact ⟨rfl, hb1⟩

end Go.Proofs.Ytpajfeboaeoclaa
