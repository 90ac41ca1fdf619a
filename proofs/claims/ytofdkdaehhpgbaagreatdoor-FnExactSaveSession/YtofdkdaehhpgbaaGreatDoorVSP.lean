/- An answer that is a row of bytes: read, compared, marked, held. -/
import Derived.Test.YtofdkdaehhpgbaaGreatDoorKPA
import Derived.Test.YtofdkdaehhpgbaaGreatDoorVSJ
namespace Go.Proofs.YtofdkdaehhpgbaaGreatDoor
set_option linter.unusedVariables false
set_option linter.unusedSimpArgs false
open Go.RowKit

theorem wrap_suc2 {q : Nat} (h : q ≤ 2000000) : wrap64 ((q : Int) + 1) = ((q + 1 : Nat) : Int) := by
  unfold wrap64
  omega
theorem u8s_get {bs : List Nat} {i : Nat} {x : Nat} (h : bs[i]? = some x) : (u8s bs)[i]? = some (.int .u8 (x : Int)) := by simp [u8s, h]

set_option maxHeartbeats 1000000 in
theorem eqByteS_same (a b : Option Addr) (c d n : Nat) (R : List Nat) (w : World) (hr : RdB w a R) (hs : RdB w b R) (hn : R.length = n) (hn2 : n ≤ 60000) :
    Calls Tryz.prog 14 #[.slice a n c, .slice b n d] w fun e w' => e = .returned (.bool true) ∧ Below w.heap.size w w' := by
  have hne : ((n : Int) != (n : Int)) = false := by simp
  have HN := kide hn
  have HN2 := kide hn2
  clear hn hn2
  go_enter Tryz.func14, Tryz.ntmps14
  go_wp2_with fail
  clear hne
  go_loopw [5] (fun i wr => ∃ k : Nat, k ≤ n ∧ i = .int .i64 (k : Int) ∧ Below w.heap.size w wr) (fun i _ => n - (intOf i).toNat)
  case atStart => exact ⟨0, Nat.zero_le _, rfl, Below.refl _ _⟩
  case round =>
    obtain ⟨k, hk, rfl, hbel⟩ := hrel
    have HB := kide hbel
    by_cases hlt : k < n
    · rcases hr.later hbel with h | ⟨b1, o1, rfl, hc1⟩
      · have := HN.out; rw [h] at this; simp at this; omega
      rcases hs.later hbel with h | ⟨b2, o2, rfl, hc2⟩
      · have := HN.out; rw [h] at this; simp at this; omega
      obtain ⟨x, gx⟩ : ∃ y, R[k]? = some y := ⟨R[k]'(by rw [HN.out]; exact hlt), List.getElem?_eq_getElem _⟩
      have p0 := hc1 k _ (u8s_get gx)
      have q0 := hc2 k _ (u8s_get gx)
      have i0 : (k : Int) < (n : Int) := by omega
      have nx : ((x : Int) != (x : Int)) = false := by simp
      have HKL := kide hlt
      clear hc1 hc2 gx hbel hk hlt
      go_wp2_with fail
      go_quiet (fail)
      go_wp2_with fail
      have t9 := wrap_suc2 (q := k) (by have := HKL.out; have := HN2.out; omega)
      rw [t9]
      clear t9
      go_roundw
      case rel => exact ⟨k + 1, HKL.out, rfl, below_drewN HB.out _⟩
      case measure => have := HKL.out; simp only [intOf, Int.toNat_natCast]; omega
    · have i0 : ¬ (k : Int) < (n : Int) := by omega
      clear hbel hlt hk
      go_wp2_with fail
      go_ret
      exact ⟨rfl, HB.out⟩

/-- The marks from 1 on. -/
def MkB (w : World) (a : Option Addr) (n : Nat) : Prop := n = 0 ∨ ∃ g, a = some ⟨g, 0, none⟩ ∧ ∀ i, i < n → w.cell? ⟨g, i, none⟩ = some (.int .u8 (((1 + i) % 256 : Nat) : Int))

set_option maxHeartbeats 1000000 in
theorem heldByteS_mk (a : Option Addr) (c n : Nat) (w : World) (hm : MkB w a n) (hn : n ≤ 60000) :
    Calls Tryz.prog 16 #[.slice a n c, .int .i64 1] w fun e w' => e = .returned (.int .i64 ((1 + n : Nat) : Int)) ∧ Below w.heap.size w w' := by
  have HN2 := kide hn
  clear hn
  go_enter Tryz.func16, Tryz.ntmps16
  go_wp2_with fail
  go_loopw [1, 5] (fun q i wr => ∃ j : Nat, j ≤ n ∧ i = .int .i64 (j : Int) ∧ q = .int .i64 ((1 + j : Nat) : Int) ∧ wr = w) (fun _ i _ => n - (intOf i).toNat)
  case atStart => exact ⟨0, Nat.zero_le _, rfl, by simp, rfl⟩
  case round =>
    obtain ⟨j, hj, rfl, rfl, hw⟩ := hrel
    obtain rfl := hw.symm
    by_cases hlt : j < n
    · rcases hm with h | ⟨g, rfl, hc⟩
      · omega
      have e0 := hc j hlt
      have i0 : (j : Int) < (n : Int) := by omega
      have HKL := kide hlt
      obtain ⟨K, hK⟩ : ∃ K, 1 + j = K := ⟨_, rfl⟩
      rw [hK] at e0
      simp only [hK]
      have HK := kide hK
      have t1 : (K : Int) % 256 = ((K % 256 : Nat) : Int) := by omega
      obtain ⟨M, hM⟩ : ∃ M, K % 256 = M := ⟨_, rfl⟩
      rw [hM] at e0 t1
      have nx : ((M : Int) != (M : Int)) = false := by simp
      clear hc hK hM hw hj hlt
      go_wp2_with fail
      have t8 := wrap_suc2 (q := K) (by have := HKL.out; have := HN2.out; have := HK.out; omega)
      have t9 := wrap_suc2 (q := j) (by have := HKL.out; have := HN2.out; omega)
      rw [t8, t9]
      clear t8 t9
      go_roundw
      case rel => exact ⟨j + 1, HKL.out, rfl, by have := HK.out; congr 2; omega, by first | rfl | trivial⟩
      case measure => have := HKL.out; simp only [intOf, Int.toNat_natCast]; omega
    · have e : j = n := by omega
      have i0 : ¬ (j : Int) < (n : Int) := by omega
      subst e
      clear hm hlt hj
      go_wp2_with fail
      go_ret
      exact ⟨rfl, Below.refl _ _⟩

set_option maxHeartbeats 1000000 in
theorem markByteS_own (g c n lo : Nat) (cur : Array Value) (w : World) (hr : Bz w g cur 5) (hN : n ≤ cur.size) (hn : n ≤ 60000) :
    Calls Tryz.prog 15 #[.slice (some ⟨g, 0, none⟩) n c, .int .i64 1] w fun e w' => e = .returned (.int .i64 ((1 + n : Nat) : Int)) ∧ MkB w' (some ⟨g, 0, none⟩) n ∧ Out g (g + 1) w w' := by
  have HN2 := kide hn
  have HC := kide hN
  have H0 := kide hr
  clear hn hN hr
  go_enter Tryz.func15, Tryz.ntmps15
  go_wp2_with fail
  go_loopw [1, 5] (fun q i wr => ∃ (j : Nat) (cs : Array Value), j ≤ n ∧ i = .int .i64 (j : Int) ∧ q = .int .i64 ((1 + j : Nat) : Int) ∧ Bz wr g cs 5 ∧ cs.size = cur.size ∧ (∀ i, i < j → cs[i]? = some (.int .u8 (((1 + i) % 256 : Nat) : Int))) ∧ Out g (g + 1) w wr) (fun _ i _ => n - (intOf i).toNat)
  case atStart => exact ⟨0, cur, Nat.zero_le _, rfl, by simp, H0.out, rfl, (fun i h => by omega), Out.refl _ _ _⟩
  case round =>
    obtain ⟨j, cs, hj, rfl, rfl, hb, hcs, hall, hou⟩ := hrel
    have HB := kide hb
    have HCS := kide hcs
    have HAL := kide hall
    have HOU := kide hou
    by_cases hlt : j < n
    · obtain ⟨vk, hvk⟩ : ∃ vk, cs[j]? = some vk := ⟨cs[j]'(by rw [hcs]; have := HC.out; omega), Array.getElem?_eq_getElem _⟩
      have ck := (hb.cell j).trans hvk
      have fk := hb.froz j
      have i0 : (j : Int) < (n : Int) := by omega
      have HKL := kide hlt
      obtain ⟨K, hK⟩ : ∃ K, 1 + j = K := ⟨_, rfl⟩
      simp only [hK]
      have HK := kide hK
      obtain ⟨M, hM⟩ : ∃ M, K % 256 = M := ⟨_, rfl⟩
      have t1 : (K : Int) % 256 = (M : Int) := by omega
      have HM := kide hM
      clear hb hcs hall hou hvk hK hM hj hlt
      go_wp2_with fail
      have t8 := wrap_suc2 (q := K) (by have := HKL.out; have := HN2.out; have := HK.out; omega)
      have t9 := wrap_suc2 (q := j) (by have := HKL.out; have := HN2.out; omega)
      rw [t8, t9]
      clear t8 t9
      go_roundw
      case rel =>
        refine ⟨j + 1, cs.setIfInBounds j (.int .u8 (M : Int)), HKL.out, rfl, by have := HK.out; congr 2; omega, HB.out.set j _, by rw [Array.size_setIfInBounds]; exact HCS.out, fun i hi => ?_, HOU.out.trans (Out.setc wr g j _)⟩
        by_cases hij : i = j
        · subst hij
          rw [Array.getElem?_setIfInBounds_self_of_lt (by rw [HCS.out]; have := HC.out; have := HKL.out; omega), ← HM.out, ← HK.out]
        · rw [Array.getElem?_setIfInBounds_ne (by omega)]
          exact HAL.out i (by omega)
      case measure => have := HKL.out; simp only [intOf, Int.toNat_natCast]; omega
    · have e : j = n := by omega
      have i0 : ¬ (j : Int) < (n : Int) := by omega
      subst e
      clear hb hcs hall hou hlt hj
      go_wp2_with fail
      go_ret
      exact ⟨rfl, .inr ⟨g, rfl, fun i hi => (HB.out.cell i).trans (HAL.out i hi)⟩, HOU.out⟩

end Go.Proofs.YtofdkdaehhpgbaaGreatDoor
