/- Numbers looked for, on the given side. -/
import Derived.Test.YtmfamdonbgmjbaaDoorKI
import Derived.Test.YtmfamdonbgmjbaaDoorK0
import Derived.Handy
namespace Go.Proofs.YtmfamdonbgmjbaaDoor
set_option linter.unusedVariables false
set_option linter.unusedSimpArgs false
open Go.RowKit

theorem l1Has_any (a : Option Addr) (c : Nat) (ks : List Int) (x : Int) (w : World) (hr : RdI w a ks) :
    Calls Tryd.prog 31 #[.slice a ks.length c, .int .i64 x] w fun e w' => e = .returned (.bool (decide (x ∈ ks))) ∧ w' = w := by
  have hlen := hr.1
  go_enter Tryd.func31, Tryd.ntmps31
  go_wp2_with fail
  go_loop [5] (fun i => ∃ k : Nat, k ≤ ks.length ∧ i = .int .i64 (k : Int) ∧ ∀ j, j < k → ks.getD j 0 ≠ x) (fun i => ks.length - (intOf i).toNat)
  case atStart => exact ⟨0, Nat.zero_le _, rfl, fun j h => by omega⟩
  case round =>
    obtain ⟨k, hk, rfl, hz⟩ := hrel
    have HZ := kide hz
    by_cases hlt : k < ks.length
    · obtain ⟨-, -, h | ⟨b, o, rfl, hc⟩⟩ := hr
      · subst h; simp at hlt
      have e0 := hc k hlt
      have hmem : ks.getD k 0 ∈ ks := by simp [List.getD, hlt]
      generalize hy : ks.getD k 0 = y at *
      have HY := kide hy
      have i0 : (k : Int) < (ks.length : Int) := by omega
      clear hc hz hy
      by_cases hxy : y = x
      · have e1 : (y == x) = true := by simp [hxy]
        have HR : Hid (decide (x ∈ ks) = true) := decide_eq_true (by rw [← hxy]; exact hmem)
        clear hxy hmem
        go_wp2_with fail
        go_ret
        exact ⟨ret_bool HR.out.symm, rfl⟩
      · have e1 : (y == x) = false := by simp [hxy]
        have HX := kide hxy
        clear hxy hmem
        go_wp2_with fail
        go_round
        case rel =>
          refine ⟨k + 1, by omega, by go_num, fun j hj => ?_⟩
          by_cases hjk : j = k
          · rw [hjk, HY.out]; exact HX.out
          · exact HZ.out j (by omega)
        case measure => simp [intOf]; omega
    · have HR : Hid (decide (x ∈ ks) = false) := decide_eq_false (fun h => by
        obtain ⟨j, hj, e⟩ := List.mem_iff_getElem.1 h
        exact hz j (by omega) (by simp [List.getD, hj, e]))
      clear hz
      go_wp2_with fail
      go_ret
      exact ⟨ret_bool HR.out.symm, rfl⟩
end Go.Proofs.YtmfamdonbgmjbaaDoor
