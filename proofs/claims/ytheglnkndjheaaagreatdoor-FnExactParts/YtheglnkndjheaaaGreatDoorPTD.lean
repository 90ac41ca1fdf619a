/- Whether two rows of variables meet, by the given text. -/
import Derived.Test.YtheglnkndjheaaaGreatDoorBTX
namespace Go.Proofs.YtheglnkndjheaaaGreatDoor
set_option linter.unusedVariables false
set_option linter.unusedSimpArgs false
open Go.RowKit

set_option maxHeartbeats 1000000 in
theorem l17Meet_any (a b : Option Addr) (c d : Nat) (xs ys : List Int) (w : World) (hr : RdI w a xs) (hs : RdI w b ys) :
    Calls Tryz.prog 28 #[.slice a xs.length c, .slice b ys.length d] w fun e w' => e = .returned (.bool (xs.any fun x => decide (x ∈ ys))) ∧ w' = w := by
  have hl := hr.1
  have HR := kide hr
  have HH := kide (fun x => l1Has_any b d ys x w hs)
  clear hr hs
  generalize hZ : (xs.any fun x => decide (x ∈ ys)) = Z
  have HZ := kide hZ
  clear hZ
  go_enter Tryz.func28, Tryz.ntmps28
  go_wp2_with fail
  go_loopw [5] (fun q wr => ∃ k : Nat, k ≤ xs.length ∧ q = .int .i64 (k : Int) ∧ ((xs.take k).any fun x => decide (x ∈ ys)) = false ∧ wr = w) (fun q _ => xs.length - (intOf q).toNat)
  case atStart => exact ⟨0, Nat.zero_le _, rfl, rfl, by trivial⟩
  case round =>
    obtain ⟨k, hk, rfl, hno, hw⟩ := hrel
    subst hw
    by_cases hlt : k < xs.length
    · have i0 : (k : Int) < (xs.length : Int) := by omega
      obtain ⟨-, -, h | ⟨g, o, rfl, hc⟩⟩ := HR.out
      · subst h; simp at hlt
      have q0 := hc k hlt
      have hx : xs[k]? = some (xs.getD k 0) := by rw [List.getElem?_eq_getElem hlt]; simp [List.getD, hlt]
      generalize xs.getD k 0 = x at *
      have HN := kide hno
      clear hc hno
      by_cases hm : x ∈ ys
      · have HC := kide (HH.out x)
        rw [decide_eq_true hm] at HC
        have hz : Z = true := by
          rw [← HZ.out]
          exact List.any_eq_true.2 ⟨x, List.mem_of_getElem? hx, by simp [hm]⟩
        subst hz
        clear hm hx
        go_wp2_with fail
        refine Calls.mono HC.out ?_
        rintro e w2 ⟨rfl, rfl⟩
        go_wp2_with fail
        go_ret
        exact ⟨rfl, rfl⟩
      · have HC := kide (HH.out x)
        rw [decide_eq_false hm] at HC
        have HT : Hid (((xs.take (k + 1)).any fun x => decide (x ∈ ys)) = false) := by
          show _ = _
          rw [List.take_add_one, hx, List.any_append, HN.out]
          simp [hm]
        clear hm hx
        go_wp2_with fail
        refine Calls.mono HC.out ?_
        rintro e w2 ⟨rfl, hw2⟩
        rw [hw2]
        go_wp2_with fail
        go_roundw
        case rel => exact ⟨k + 1, by omega, by go_num, HT.out, by trivial⟩
        case measure => simp [intOf]; omega
    · have hz : Z = false := by
        rw [← HZ.out]
        rw [List.take_of_length_le (by omega)] at hno
        exact hno
      subst hz
      clear hno
      go_wp2_with fail
      go_ret
      exact ⟨rfl, rfl⟩

end Go.Proofs.YtheglnkndjheaaaGreatDoor
