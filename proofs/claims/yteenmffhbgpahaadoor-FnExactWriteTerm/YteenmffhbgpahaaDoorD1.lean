/- What l1Turned and l1Hex answer. -/
import Derived.Test.YteenmffhbgpahaaDoorZWG
namespace Go.Proofs.YteenmffhbgpahaaDoor
set_option linter.unusedVariables false
set_option linter.unusedSimpArgs false
open Go.RowKit

set_option maxHeartbeats 1000000 in
theorem l1Turned_any (a : Option Addr) (c : Nat) (bs : List Nat) (w : World) (hr : RdB w a bs) :
    Calls Tryd.prog 48 #[.slice a bs.length c] w fun e w' => ∃ v, e = .returned v ∧ OwB w' w.heap.size v bs.reverse ∧ Below w.heap.size w w' := by
  have hlen := hr.1
  go_enter Tryd.func48, Tryd.ntmps48
  go_wp2_with fail
  have ho3 := OwB.nil w w.heap.size _ rfl (Nat.le_refl _)
  have b3 : Below w.heap.size w (w.alloc (.cells #[] 5)) := Ba (Below.refl _ _) _
  go_loopw [3, 4] (fun v i wr => ∃ k : Nat, k ≤ bs.length ∧ i = .int .i64 ((k : Int) - 1) ∧ OwB wr w.heap.size v (bs.drop k).reverse ∧ Below w.heap.size w wr) (fun _ i _ => ((intOf i) + 1).toNat)
  case atStart => exact ⟨bs.length, Nat.le_refl _, rfl, by simpa using ho3, b3⟩
  case round =>
    obtain ⟨k, hk, rfl, hown, hbel⟩ := hrel
    clear ho3 b3
    cases k with
    | zero =>
      go_wp2
      go_ret
      exact ⟨_, rfl, by simpa using hown, hbel⟩
    | succ j =>
      rw [show (((j + 1 : Nat) : Int) - 1) = (j : Int) by omega]
      have hr2 := hr.later hbel
      obtain ⟨-, hby, h | ⟨b, o, rfl, hc⟩⟩ := hr2
      · subst h; simp at hk
      have hcell := hc j (by omega)
      have hj : j < bs.length := by omega
      have hji : (j : Int) < (bs.length : Int) := by omega
      have hs := hbel.size
      have HT : Hid ((bs.drop j).reverse = (bs.drop (j + 1)).reverse ++ [bs.getD j 0]) := by
        show _ = _
        rw [List.drop_eq_getElem_cons hj, List.reverse_cons]
        congr 2
        simp [List.getD, hj]
      have hbl : ((bs.drop (j + 1)).reverse).length ≤ 4194304 := by simp; omega
      have hy : bs.getD j 0 < 256 := by
        have e : bs.getD j 0 = bs[j] := by simp [List.getD, hj]
        rw [e]; exact hby _ (List.getElem_mem hj)
      clear hc
      generalize (bs.drop (j + 1)).reverse = bk at *
      generalize bs.getD j 0 = y at *
      go_wp2_with (at_builtin; refine wpList_appB _ rfl _ _ rfl w.heap.size _ bk y rfl (hown.alloc _) wr.heap.size rfl (by simp) hbl (by simp; omega) ?_)
      intro v' w2 hown2 hgr
      have hb2 : Below w.heap.size w w2 := (Ba hbel _).grown hgr (by simp; omega) hown.own
      clear hgr hown
      go_wp2
      go_roundw
      case rel => exact ⟨j, by omega, by go_num, by rw [HT.out]; exact hown2, hb2⟩
      case measure => simp [intOf]

end Go.Proofs.YteenmffhbgpahaaDoor
